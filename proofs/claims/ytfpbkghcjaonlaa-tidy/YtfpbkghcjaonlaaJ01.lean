import Derived.Test.YtfpbkghcjaonlaaProg
import Derived.WalkKit
import Derived.WalkSpells
import Derived.WalkLawsBesides
import Derived.ArgAppend
import Derived.Deep.QuietTactic
import Derived.BigQuiet
import Derived.Deep.RegionHeld3
import Derived.Deep.RegionLaw
/-
  Colours, frames, rows: what all walks stand on. Nothing of the program's own.
-/
namespace Go.Proofs.Ytfpbkghcjaonlaa
open Go.RowKit

theorem hide {p : Prop} (h : p) : Hid p := h

/-- From w (blocks coloured by k) to w' (by k'): only blocks of colours in C have turned; new blocks have come. -/
structure Evo (k k' : Nat → Nat) (C : Nat → Prop) (w w' : World) : Prop where
  os : w'.os = w.os
  tape : w'.tape = w.tape
  output : w'.output = w.output
  size : w.heap.size ≤ w'.heap.size
  col : ∀ b, b < w.heap.size → k' b = k b
  keep : ∀ b, b < w.heap.size → ¬ C (k b) → w'.heap[b]? = w.heap[b]?

theorem Evo.refl (k : Nat → Nat) (C : Nat → Prop) (w : World) : Evo k k C w w := ⟨rfl, rfl, rfl, Nat.le_refl _, fun _ _ => rfl, fun _ _ _ => rfl⟩

theorem Evo.trans {k1 k2 k3 : Nat → Nat} {C : Nat → Prop} {a b c : World} (h : Evo k1 k2 C a b) (g : Evo k2 k3 C b c) : Evo k1 k3 C a c :=
  ⟨g.os.trans h.os, g.tape.trans h.tape, g.output.trans h.output, Nat.le_trans h.size g.size,
   fun i hi => (g.col i (Nat.lt_of_lt_of_le hi h.size)).trans (h.col i hi),
   fun i hi hc => (g.keep i (Nat.lt_of_lt_of_le hi h.size) (by rw [h.col i hi]; exact hc)).trans (h.keep i hi hc)⟩

theorem Evo.mono {k1 k2 : Nat → Nat} {C D : Nat → Prop} {a b : World} (h : Evo k1 k2 C a b) (hs : ∀ c, C c → D c) : Evo k1 k2 D a b :=
  ⟨h.os, h.tape, h.output, h.size, h.col, fun i hi hc => h.keep i hi (fun x => hc (hs _ x))⟩

/-- What only makes memory. -/
theorem Evo.of_below {k : Nat → Nat} {C : Nat → Prop} {a b : World} (h : Below a.heap.size a b) : Evo k k C a b :=
  ⟨h.os, h.tape, h.output, h.size, fun _ _ => rfl, fun i hi _ => h.block i hi⟩

theorem Evo.drew {k1 k2 : Nat → Nat} {C : Nat → Prop} {a b : World} (h : Evo k1 k2 C a b) : Evo k1 k2 C a b.drew := ⟨h.os, h.tape, h.output, h.size, h.col, h.keep⟩

theorem Evo.drewN {k1 k2 : Nat → Nat} {C : Nat → Prop} {a b : World} (h : Evo k1 k2 C a b) (n : Nat) : Evo k1 k2 C a (b.drewN n) := ⟨h.os, h.tape, h.output, h.size, h.col, h.keep⟩

theorem Evo.alloc {k1 k2 : Nat → Nat} {C : Nat → Prop} {a b : World} (h : Evo k1 k2 C a b) (o : Obj) : Evo k1 k2 C a (b.alloc o) :=
  h.trans ⟨rfl, rfl, rfl, by simp, fun _ _ => rfl, fun i hi _ => Below.heap_alloc b o i hi⟩

theorem Evo.setCell {k1 k2 : Nat → Nat} {C : Nat → Prop} {a b : World} (h : Evo k1 k2 C a b) (p : Addr) (v : Value) (hp : p.block < b.heap.size → C (k2 p.block)) : Evo k1 k2 C a (b.setCell p v) :=
  h.trans ⟨rfl, rfl, rfl, by simp [World.setCell], fun _ _ => rfl, fun i hi hc => heap_setCell_other b p i v (fun e => hc (by rw [e]; exact hp (e ▸ hi)))⟩

/-- Other colours for blocks that have come since. -/
theorem Evo.recolour {k1 k2 : Nat → Nat} {C : Nat → Prop} {a b : World} (h : Evo k1 k2 C a b) (k3 : Nat → Nat) (hk : ∀ i, i < a.heap.size → k3 i = k2 i) : Evo k1 k3 C a b :=
  ⟨h.os, h.tape, h.output, h.size, fun i hi => (hk i hi).trans (h.col i hi), h.keep⟩

/-- One block. -/
def Blk (k : Nat → Nat) (w : World) (c b e : Nat) (cs : List Value) : Prop := w.heap[b]? = some (.cells cs.toArray e (0, 0)) ∧ k b = c

theorem Blk.lt {k : Nat → Nat} {w : World} {c b e : Nat} {cs : List Value} (h : Blk k w c b e cs) : b < w.heap.size := (Array.getElem?_eq_some_iff.1 h.1).1
theorem Blk.cell {k : Nat → Nat} {w : World} {c b e : Nat} {cs : List Value} (h : Blk k w c b e cs) (j : Nat) : w.cell? ⟨b, j, none⟩ = cs[j]? := by
  rw [cell_of_row w b j _ e (0, 0) h.1]; simp
theorem Blk.free {k : Nat → Nat} {w : World} {c b e : Nat} {cs : List Value} (h : Blk k w c b e cs) (j : Nat) : w.frozen? ⟨b, j, none⟩ = false := frozen_of_row w b j _ e h.1
theorem Blk.evo {k k' : Nat → Nat} {w w' : World} {c b e : Nat} {cs : List Value} {C : Nat → Prop} (h : Blk k w c b e cs) (g : Evo k k' C w w') (hc : ¬ C c) : Blk k' w' c b e cs :=
  ⟨(g.keep b h.lt (by rw [h.2]; exact hc)).trans h.1, (g.col b h.lt).trans h.2⟩
theorem Blk.set {k : Nat → Nat} {w : World} {c b e : Nat} {cs : List Value} (h : Blk k w c b e cs) (j : Nat) (v : Value) : Blk k (w.setCell ⟨b, j, none⟩ v) c b e (cs.set j v) := by
  refine ⟨?_, h.2⟩
  rw [heap_setCell_same w b j _ e v h.1]
  simp
theorem Blk.other {k : Nat → Nat} {w : World} {c b e : Nat} {cs : List Value} (h : Blk k w c b e cs) (p : Addr) (v : Value) (hp : b ≠ p.block) : Blk k (w.setCell p v) c b e cs :=
  ⟨(heap_setCell_other w p b v hp).trans h.1, h.2⟩
theorem Blk.ne {k : Nat → Nat} {w : World} {c c' b b' e e' : Nat} {cs cs' : List Value} (h : Blk k w c b e cs) (g : Blk k w c' b' e' cs') (hc : c ≠ c') : b ≠ b' := by
  rintro rfl; exact hc (h.2.symm.trans g.2)

/-- A slice value v whose array has the colour c, and whose elements are the rows. -/
structure Rows (k : Nat → Nat) (w : World) (c e size : Nat) (v : Value) (rows : List (List Value)) : Prop where
  len : ∀ r ∈ rows, r.length = size
  own : w.ownsRow 0 e size v rows.length rows.flatten
  col : ∀ b, v.ownBlock = some b → k b = c

theorem flatten_len {rows : List (List Value)} {size : Nat} (h : ∀ r ∈ rows, r.length = size) : rows.flatten.length = rows.length * size := by
  induction rows with
  | nil => simp
  | cons r rs ih =>
    simp only [List.flatten_cons, List.length_append, List.length_cons]
    rw [ih (fun x hx => h x (List.mem_cons_of_mem _ hx)), h r (List.mem_cons_self)]
    rw [Nat.add_mul]; omega

theorem flatten_get {rows : List (List Value)} {size : Nat} (h : ∀ r ∈ rows, r.length = size) (i j : Nat) (hi : i < rows.length) (hj : j < size) :
    rows.flatten[i * size + j]? = (rows[i]'hi)[j]? := by
  induction rows generalizing i with
  | nil => simp at hi
  | cons r rs ih =>
    have hr := h r List.mem_cons_self
    cases i with
    | zero => simp [List.getElem?_append, hr, hj]
    | succ i =>
      simp only [List.flatten_cons, List.getElem_cons_succ]
      rw [List.getElem?_append_right (by rw [hr, Nat.add_mul]; omega)]
      rw [show (i + 1) * size + j - r.length = i * size + j from by rw [hr, Nat.add_mul]; omega]
      exact ih (fun x hx => h x (List.mem_cons_of_mem _ hx)) i (by simpa using hi)

theorem flatten_set {rows : List (List Value)} {size : Nat} (h : ∀ r ∈ rows, r.length = size) (i j : Nat) (hi : i < rows.length) (hj : j < size) (x : Value) :
    rows.flatten.set (i * size + j) x = (rows.set i ((rows[i]'hi).set j x)).flatten := by
  induction rows generalizing i with
  | nil => simp at hi
  | cons r rs ih =>
    have hr := h r List.mem_cons_self
    cases i with
    | zero => simp [hr, hj]
    | succ i =>
      simp only [List.flatten_cons, List.getElem_cons_succ, List.set_cons_succ]
      rw [List.set_append_right _ _ (by rw [hr, Nat.add_mul]; omega)]
      rw [show (i + 1) * size + j - r.length = i * size + j from by rw [hr, Nat.add_mul]; omega]
      rw [ih (fun x hx => h x (List.mem_cons_of_mem _ hx)) i (by simpa using hi)]

theorem Rows.nil (k : Nat → Nat) (w : World) (c e size : Nat) : Rows k w c e size (.slice none 0 0) [] :=
  ⟨by simp, World.ownsRow_nil w 0 e size, by simp [Value.ownBlock]⟩

section
variable {k k' : Nat → Nat} {w w' : World} {c e size : Nat} {v : Value} {rows : List (List Value)}

/-- The slice value's outer form. -/
theorem Rows.form (h : Rows k w c e size v rows) : ∃ a cap, v = .slice a rows.length cap ∧ rows.length ≤ cap := by
  rcases h.own.2 with ⟨rfl, h0⟩ | ⟨g, cap, cur, rfl, _, _, hc, _⟩
  · exact ⟨none, 0, by rw [h0], by omega⟩
  · exact ⟨_, cap, rfl, hc⟩

theorem Rows.shape (h : Rows k w c e size v rows) : ∃ a n cap, v = .slice a n cap := let ⟨a, cap, h, _⟩ := h.form; ⟨a, _, cap, h⟩

/-- Where there is an element there is an array. -/
theorem Rows.at (h : Rows k w c e size v rows) (h0 : 0 < rows.length) : ∃ b cap, v = .slice (some ⟨b, 0, none⟩) rows.length cap ∧ k b = c ∧ b < w.heap.size ∧ rows.length ≤ cap ∧
    (∀ i j, (hi : i < rows.length) → j < size → w.cell? ⟨b, i * size + j, none⟩ = (rows[i]'hi)[j]?) ∧ (∀ j, w.frozen? ⟨b, j, none⟩ = false) := by
  have ho := h.own
  rcases ho.2 with ⟨rfl, hz⟩ | ⟨g, cap, cur, rfl, _, hg, hc, _⟩
  · omega
  · refine ⟨g, cap, rfl, h.col g rfl, (Array.getElem?_eq_some_iff.1 hg).1, hc, fun i j hi hj => ?_, fun j => ho.frozenAt j⟩
    rw [← flatten_get h.len i j hi hj]
    refine ho.cellAt (i * size + j) ?_
    have : (i + 1) * size ≤ rows.length * size := Nat.mul_le_mul_right _ hi
    rw [Nat.add_mul] at this
    omega

theorem Rows.evo {C : Nat → Prop} (h : Rows k w c e size v rows) (g : Evo k k' C w w') (hc : ¬ C c) : Rows k' w' c e size v rows := by
  obtain ⟨h1, h2, h3⟩ := h
  refine ⟨h1, ⟨h2.1, ?_⟩, ?_⟩
  · rcases h2.2 with hn | ⟨b, cap, cur, rfl, hb, hg, r⟩
    · exact .inl hn
    · have hlt := (Array.getElem?_eq_some_iff.1 hg).1
      exact .inr ⟨b, cap, cur, rfl, hb, (g.keep b hlt (by rw [h3 b rfl]; exact hc)).trans hg, r⟩
  · intro b hb
    rcases h2.2 with ⟨rfl, _⟩ | ⟨b', cap, cur, rfl, _, hg, _⟩
    · simp [Value.ownBlock] at hb
    · simp [Value.ownBlock] at hb; subst hb
      exact (g.col _ (Array.getElem?_eq_some_iff.1 hg).1).trans (h3 _ rfl)

theorem Rows.other (h : Rows k w c e size v rows) (p : Addr) (x : Value) (hp : k p.block ≠ c) : Rows k (w.setCell p x) c e size v rows := by
  obtain ⟨h1, h2, h3⟩ := h
  refine ⟨h1, ⟨h2.1, ?_⟩, h3⟩
  rcases h2.2 with hn | ⟨b, cap, cur, rfl, hb, hg, r⟩
  · exact .inl hn
  · exact .inr ⟨b, cap, cur, rfl, hb, (heap_setCell_other w p b x (fun e => hp (by rw [← e]; exact h3 b rfl))).trans hg, r⟩

theorem Rows.set {b n cap : Nat} (h : Rows k w c e size (.slice (some ⟨b, 0, none⟩) n cap) rows) (i j : Nat) (hi : i < rows.length) (hj : j < size) (x : Value) :
    Rows k (w.setCell ⟨b, i * size + j, none⟩ x) c e size (.slice (some ⟨b, 0, none⟩) n cap) (rows.set i ((rows[i]'hi).set j x)) := by
  obtain ⟨h1, h2, h3⟩ := h
  have hn : n = rows.length := by
    rcases h2.2 with ⟨hh, _⟩ | ⟨g, cap', cur, hh, _⟩
    · simp at hh
    · simp at hh; exact hh.2.1
  subst hn
  refine ⟨?_, ?_, h3⟩
  · intro r hr
    rcases List.mem_or_eq_of_mem_set hr with hr | rfl
    · exact h1 r hr
    · simp [h1 _ (List.getElem_mem hi)]
  · have := h2.stored (i * size + j) x
    rw [flatten_set h1 i j hi hj x] at this
    simpa using this.1

theorem Rows.alloc (h : Rows k w c e size v rows) (o : Obj) : Rows k (w.alloc o) c e size v rows := ⟨h.len, h.own.alloc o, h.col⟩
theorem Rows.drew (h : Rows k w c e size v rows) : Rows k w.drew c e size v rows := ⟨h.len, h.own, h.col⟩
end

theorem Rows.of_heap {k : Nat → Nat} {w w' : World} {c e size : Nat} {v : Value} {rows : List (List Value)} (hh : w'.heap = w.heap) (h : Rows k w c e size v rows) : Rows k w' c e size v rows := by
  refine ⟨h.len, ⟨h.own.1, ?_⟩, h.col⟩
  rw [hh]; exact h.own.2

/-- What a new array's owner is, of whatever colour. -/
theorem Rows.fresh {k : Nat → Nat} {w w' : World} {e size : Nat} {v' : Value} {n : Nat} {rows : List (List Value)} (c : Nat) (hl : ∀ r ∈ rows, r.length = size) (hn : n = rows.length)
    (h : w'.ownsRow w.heap.size e size v' n rows.flatten) : Rows (fun b => if b < w.heap.size then k b else c) w' c e size v' rows := by
  subst hn
  refine ⟨hl, ⟨h.1, ?_⟩, fun b hb => ?_⟩
  · rcases h.2 with hn | ⟨b, cap, cur, hv, hb, r⟩
    · exact .inl hn
    · exact .inr ⟨b, cap, cur, hv, Nat.zero_le _, r⟩
  · have := (h.lt b hb).1
    show (if b < w.heap.size then k b else c) = c
    rw [if_neg (by omega)]

/-- append, the slice's array coloured c. -/
theorem run_append_rows {P : Program} {k : Nat → Nat} {w : World} {c : Nat} (t ty e : TypeId) (i : TypeInfo) (z : Value) (size bytes : Nat) (ht : P.underlying t = some (.slice e)) (hi : P.info? e = some i) (hz : i.zero = some z)
    (hsize : i.size = size) (hby : i.bytes = bytes) (hzs : z.cells.size = size) (hsz : 0 < size) {v : Value} {rows : List (List Value)} (h : Rows k w c e size v rows)
    (a : Addr) (m cp : Nat) (news : List (List Value)) (hm : news.length = m) (hl : ∀ r ∈ news, r.length = size) (hnews : ∀ j u, news.flatten[j]? = some u → w.cell? (a.add j) = some u) (h1 : ∀ u ∈ news.flatten, u.oneCell' = true)
    (h63 : rows.length + m ≤ maxLen) (hbytes : (rows.length + m) * bytes ≤ 140737488355328) :
    ∃ v' w' k', (Builtin.append_ #[t, t] ty #[v, .slice (some a) m cp]).run P w = .ok v' w' ∧ Rows k' w' c e size v' (rows ++ news) ∧ Evo k k' (fun x => x = c) w w' := by
  subst hm
  have hfl : news.flatten.length = news.length * size := flatten_len hl
  have hrl : rows.flatten.length = rows.length * size := flatten_len h.len
  have hla : ∀ r ∈ rows ++ news, r.length = size := fun r hr => by
    rcases List.mem_append.1 hr with hr | hr
    · exact h.len r hr
    · exact hl r hr
  have ho := h.own
  have hev : ∀ w', w.grownBy w' none → Evo k (fun b => if b < w.heap.size then k b else c) (fun x => x = c) w w' := fun w' g =>
    ⟨g.os, g.tape, g.output, g.size, fun b hb => if_pos hb, fun b hb _ => g.block b hb (by simp)⟩
  rcases ho.2 with ⟨rfl, hz0⟩ | ⟨g, cap, cur, rfl, hg0, hg, hc, hcm, hcs, htk⟩
  · obtain ⟨v', w', hrun, r1, r2, _⟩ := run_append_own (P := P) w w.heap.size t ty e i z size bytes ht hi hz hsize hby hzs hsz (.slice none 0 0) 0 [] (World.ownsRow_nil w _ e size) a news.length cp news.flatten hfl hnews h1 (by omega) (by rw [hz0] at hbytes; simpa using hbytes) (Nat.le_refl _)
    have hr0 : rows = [] := List.length_eq_zero_iff.1 hz0
    subst hr0
    exact ⟨v', w', _, hrun, Rows.fresh (n := 0 + news.length) c hla (by simp) (by simpa using r1), hev w' r2⟩
  · by_cases hroom : rows.length + news.length ≤ cap
    · subst hsize
      have hle : (rows.length + news.length) * i.size ≤ cap * i.size := Nat.mul_le_mul_right _ hroom
      rw [Nat.add_mul] at hle
      have hrun := run_append_room (P := P) w t ty e i ht hi g rows.length cap cur hg a news.length cp news.flatten hfl hnews h1 hroom (by rw [hfl, hcs]; omega)
      refine ⟨_, _, k, hrun, ⟨hla, ⟨?_, .inr ⟨g, cap, (cur.toList.take (rows.length * i.size) ++ news.flatten ++ cur.toList.drop (rows.length * i.size + news.flatten.length)).toArray, by simp, hg0, ?_, by simpa using hroom, hcm, ?_, ?_⟩⟩, h.col⟩, ?_⟩
      · rw [flatten_len hla]
      · simp only [World.setRow]
        rw [Array.getElem?_modify]
        simp [hg]
      · have hmin : min rows.length cap = rows.length := by omega
        simp [hfl, hcs]
        first | omega | (rw [hmin]; omega)
      · rw [List.toList_toArray, htk, List.flatten_append]
        rw [List.take_append_of_le_length (by simp [hrl, hfl, Nat.add_mul])]
        rw [List.take_of_length_le (by simp [hrl, hfl, Nat.add_mul])]
      · refine ⟨rfl, rfl, rfl, by simp, fun _ _ => rfl, fun b hb hcol => ?_⟩
        have hbg : b ≠ g := fun e => hcol (by rw [e]; exact h.col g rfl)
        simp only [World.setRow]
        rw [Array.getElem?_modify, if_neg (fun e => hbg e.symm)]
    · obtain ⟨v', w', hrun, r1, r2⟩ := run_append_arg_grows (P := P) w t ty e i z size bytes ht hi hz hsize hby hzs hsz ⟨g, 0, none⟩ rows.length cap rows.flatten hrl (ho.cells rfl) a news.length cp news.flatten hfl hnews (by omega) h63 hbytes
      refine ⟨v', w', _, hrun, Rows.fresh (n := rows.length + news.length) c hla (by simp) (by rw [List.flatten_append]; exact r1), hev w' r2⟩

/-- The same, as one step of a region that draws. -/
theorem step_append_rows {P : Program} {ops : Array Oper} {o : Oper} {a : Act} {w : World} {K : Act → World → Prop} {Q : Exit → Act → World → Prop} {E : Prop}
    (k : Nat → Nat) (c : Nat) (s x : Operand) (t e : TypeId) (z : Value) (size bytes : Nat) (v : Value) (rows news : List (List Value)) (n : Nat) (ad : Addr) (m cp : Nat) (hrn : rows.length = n)
    (hg : o.guard = none) (hop : o.op = Op.call { callee := Callee.builtin Builtin.append, args := #[s, x], argTypes := #[t, t] })
    (ht : P.underlying t = some (.slice e)) (hinf : (P.info? e).map (fun i => (i.zero, i.size, i.bytes)) = some (some z, size, bytes)) (hzs : z.cells.size = size) (hsz : 0 < size)
    (hs : a.eval s = v) (hx : a.eval x = .slice (some ad) m cp) (h : Rows k w c e size v rows)
    (hm : news.length = m) (hl : ∀ r ∈ news, r.length = size) (hnews : ∀ j u, news.flatten[j]? = some u → w.cell? (ad.add j) = some u) (h1 : ∀ u ∈ news.flatten, u.oneCell' = true)
    (h63 : n + m ≤ maxLen) (hbytes : (n + m) * bytes ≤ 140737488355328)
    (hK : ∀ ao cap' w' k', Rows k' w' c e size (.slice ao (n + m) cap') (rows ++ news) → Evo k k' (fun x => x = c) w w' → K (a.put o.dst (.slice ao (n + m) cap')) w') :
    if Region.wanted o (yielded ops a.tmps) = true then Oper.wp P o a w K Q else E := by
  subst hrn
  have hw : Region.wanted o (yielded ops a.tmps) = true := by simp [Region.wanted, hg]
  rw [if_pos hw]
  obtain ⟨i, hi, hz0, hz1, hz2⟩ := info_parts hinf
  obtain ⟨v', w', k', hrun, r1, r2⟩ := run_append_rows (P := P) t o.type e i z size bytes ht hi hz0 hz1 hz2 hzs hsz h ad m cp news hm hl hnews h1 h63 hbytes
  subst hs
  unfold Oper.wp
  simp [execOp, hop, resolve, invoke, builtin, hx, hrun, Result.andThen]
  obtain ⟨ao, cap', hv, _⟩ := r1.form
  rw [List.length_append, hm] at hv
  subst hv
  exact hK ao cap' w' k' r1 r2

/-- append onto a coloured slice, outside a region that draws. -/
theorem wpList_append_rows {P : Program} {w : World} {ops : Array Oper} {rest : List Oper} {o : Oper} {a : Act} {Q : Exit → Act → World → Prop}
    (k : Nat → Nat) (c : Nat) (s x : Operand) (t e : TypeId) (z : Value) (size bytes : Nat) (v : Value) (rows news : List (List Value)) (n : Nat) (ad : Addr) (m cp : Nat) (hrn : rows.length = n)
    (hg : o.guard = none) (hop : o.op = Op.call { callee := Callee.builtin Builtin.append, args := #[s, x], argTypes := #[t, t] })
    (ht : P.underlying t = some (.slice e)) (hinf : (P.info? e).map (fun i => (i.zero, i.size, i.bytes)) = some (some z, size, bytes)) (hzs : z.cells.size = size) (hsz : 0 < size)
    (hs : a.eval s = v) (hx : a.eval x = .slice (some ad) m cp) (h : Rows k w c e size v rows)
    (hm : news.length = m) (hl : ∀ r ∈ news, r.length = size) (hnews : ∀ j u, news.flatten[j]? = some u → w.cell? (ad.add j) = some u) (h1 : ∀ u ∈ news.flatten, u.oneCell' = true)
    (h63 : n + m ≤ maxLen) (hbytes : (n + m) * bytes ≤ 140737488355328)
    (hK : ∀ ao cap' w' k', Rows k' w' c e size (.slice ao (n + m) cap') (rows ++ news) → Evo k k' (fun x => x = c) w w' → wpList P ops Q rest (a.put o.dst (.slice ao (n + m) cap')) w') :
    wpList P ops Q (o :: rest) a w := by
  subst hrn
  refine wpList_plain hg fun K hK' => ?_
  obtain ⟨i, hi, hz0, hz1, hz2⟩ := info_parts hinf
  obtain ⟨v', w', k', hrun, r1, r2⟩ := run_append_rows (P := P) t o.type e i z size bytes ht hi hz0 hz1 hz2 hzs hsz h ad m cp news hm hl hnews h1 h63 hbytes
  subst hs
  unfold Oper.wp
  simp [execOp, hop, resolve, invoke, builtin, hx, hrun, Result.andThen]
  obtain ⟨ao, cap', hv, _⟩ := r1.form
  rw [List.length_append, hm] at hv
  subst hv
  exact hK' _ _ (hK ao cap' w' k' r1 r2)

/-- A slice that the call itself builds, from block B on: its rows. -/
def Made (w : World) (B e size : Nat) (v : Value) (rows : List (List Value)) : Prop := (∀ r ∈ rows, r.length = size) ∧ w.ownsRow B e size v rows.length rows.flatten
theorem Made.nil (w : World) (B e size : Nat) : Made w B e size (.slice none 0 0) [] := ⟨by simp, World.ownsRow_nil w B e size⟩
theorem Made.form {w : World} {B e size : Nat} {v : Value} {rows : List (List Value)} (h : Made w B e size v rows) : ∃ a cap, v = .slice a rows.length cap := by
  rcases h.2.2 with ⟨rfl, h0⟩ | ⟨g, cap, cur, rfl, _⟩
  · exact ⟨none, 0, by rw [h0]⟩
  · exact ⟨_, cap, rfl⟩
theorem Made.rows {k : Nat → Nat} {w w' : World} {e size : Nat} {v : Value} {rows : List (List Value)} (h : Made w' w.heap.size e size v rows) (c : Nat) : Rows (fun b => if b < w.heap.size then k b else c) w' c e size v rows :=
  Rows.fresh c h.1 rfl h.2
theorem Made.kept {w w' : World} {B e size : Nat} {v : Value} {rows : List (List Value)} (h : Made w B e size v rows) (hb : Below w.heap.size w w') : Made w' B e size v rows := by
  refine ⟨h.1, h.2.1, ?_⟩
  rcases h.2.2 with hn | ⟨g, cap, cur, hv, hg, hh, r⟩
  · exact .inl hn
  · exact .inr ⟨g, cap, cur, hv, hg, (hb.block g (Array.getElem?_eq_some_iff.1 hh).1).trans hh, r⟩
theorem Made.setCell {w : World} {B e size : Nat} {v : Value} {rows : List (List Value)} (h : Made w B e size v rows) (p : Addr) (u : Value) (hp : v.ownBlock ≠ some p.block) : Made (w.setCell p u) B e size v rows := by
  refine ⟨h.1, h.2.1, ?_⟩
  rcases h.2.2 with hn | ⟨g, cap, cur, hv, hg, hh, r⟩
  · exact .inl hn
  · exact .inr ⟨g, cap, cur, hv, hg, (heap_setCell_other w p g u (fun e => hp (by rw [hv, ← e]; rfl))).trans hh, r⟩

theorem wpList_append_made {P : Program} {w : World} {ops : Array Oper} {rest : List Oper} {o : Oper} {a : Act} {Q : Exit → Act → World → Prop}
    (s x : Operand) (t e : TypeId) (z : Value) (size bytes : Nat) (v : Value) (rows : List (List Value)) (n : Nat) (new : List Value) (B : Nat) (ad : Addr) (cp : Nat) (hrn : rows.length = n)
    (hg : o.guard = none) (hop : o.op = Op.call { callee := Callee.builtin Builtin.append, args := #[s, x], argTypes := #[t, t] })
    (ht : P.underlying t = some (.slice e)) (hinf : (P.info? e).map (fun i => (i.zero, i.size, i.bytes)) = some (some z, size, bytes)) (hzs : z.cells.size = size) (hsz : 0 < size)
    (hs : a.eval s = v) (hx : a.eval x = .slice (some ad) 1 cp) (h : Made w B e size v rows)
    (hl : new.length = size) (hnews : ∀ j u, new[j]? = some u → w.cell? (ad.add j) = some u) (h1 : ∀ u ∈ new, u.oneCell' = true)
    (h63 : n + 1 ≤ maxLen) (hbytes : (n + 1) * bytes ≤ 140737488355328) (hB : B ≤ w.heap.size)
    (hK : ∀ ao cap' w', Made w' B e size (.slice ao (n + 1) cap') (rows ++ [new]) → Below B w w' → wpList P ops Q rest (a.put o.dst (.slice ao (n + 1) cap')) w') :
    wpList P ops Q (o :: rest) a w := by
  subst hrn
  refine wpList_plain hg fun K hK' => ?_
  obtain ⟨i, hi, hz0, hz1, hz2⟩ := info_parts hinf
  obtain ⟨v', w', hrun, r1, r2, _⟩ := run_append_own (P := P) w B t o.type e i z size bytes ht hi hz0 hz1 hz2 hzs hsz v rows.length rows.flatten h.2 ad 1 cp new (by simpa using hl) hnews h1 h63 hbytes hB
  subst hs
  unfold Oper.wp
  simp [execOp, hop, resolve, invoke, builtin, hx, hrun, Result.andThen]
  have hM : Made w' B e size v' (rows ++ [new]) := by
    refine ⟨fun r hr => ?_, by simpa using r1⟩
    rcases List.mem_append.1 hr with hr | hr
    · exact h.1 r hr
    · simp at hr; rw [hr]; exact hl
  obtain ⟨ao, cap', hv⟩ := hM.form
  rw [List.length_append] at hv
  simp only [List.length_cons, List.length_nil, Nat.zero_add] at hv
  subst hv
  have hlt := h.2.lt
  refine hK' _ _ (hK ao cap' w' hM ⟨r2.os, r2.tape, r2.output, r2.size, fun j hj => r2.block j (by omega) (fun e => ?_)⟩)
  have := (hlt j e.symm).1
  omega

/-- The cells of a block that has just come. -/
theorem cell_one_new' (w : World) (cs : List Value) (e : TypeId) : ∀ j u, cs[j]? = some u → (w.alloc (Obj.cells cs.toArray e)).cell? ((⟨w.heap.size, 0, none⟩ : Addr).add j) = some u := by
  intro j u hj
  rw [Addr.add_lit, Nat.zero_add, cell_of_row _ w.heap.size j _ _ _ (heap_alloc_new w _)]
  simpa using hj
theorem cell_two_new' (w : World) (A : Obj) (cs : List Value) (e : TypeId) : ∀ j u, cs[j]? = some u → ((w.alloc A).alloc (Obj.cells cs.toArray e)).cell? ((⟨w.heap.size + 1, 0, none⟩ : Addr).add j) = some u := by
  intro j u hj
  rw [Addr.add_lit, Nat.zero_add, cell_of_row _ (w.heap.size + 1) j _ _ _ (heap_alloc2_new w A _)]
  simpa using hj

def noC : Nat → Prop := fun _ => False
theorem noC_not (c : Nat) : ¬ noC c := fun h => h

/-- Behind 'x.f = append(x.f, ..)': the field's block and its slice. -/
theorem push_fin {k k1 : Nat → Nat} {w W w1 : World} {cB cN b eB e size : Nat} {cs : List Value} {v1 : Value} {rows : List (List Value)} (e0 : Evo k k noC w W) (hB : Blk k W cB b eB cs) (hne : cB ≠ cN)
    (hR : Rows k1 w1 cN e size v1 rows) (hE : Evo k k1 (fun x => x = cN) W w1) (j : Nat) :
    Evo k k1 (fun c => c = cB ∨ c = cN) w (w1.setCell ⟨b, j, none⟩ v1) ∧ Blk k1 (w1.setCell ⟨b, j, none⟩ v1) cB b eB (cs.set j v1) ∧ Rows k1 (w1.setCell ⟨b, j, none⟩ v1) cN e size v1 rows := by
  have hB2 := hB.evo hE hne
  have eA : Evo k k1 (fun c => c = cB ∨ c = cN) w w1 := (e0.mono (fun _ h => h.elim)).trans (hE.mono (fun _ h => .inr h))
  exact ⟨eA.setCell _ _ (fun _ => .inl hB2.2), hB2.set j v1, hR.other _ _ (by show k1 b ≠ cN; rw [hB2.2]; exact hne)⟩
end Go.Proofs.Ytfpbkghcjaonlaa

/-
  sixfoldref: Flight, place, send.
-/
namespace Go.Proofs.Ytfpbkghcjaonlaa
open Go.RowKit

/-- A cut. -/
def cutRow (c : Int × Int) : List Value := [.int .i64 c.1, .int .i64 c.2]
def intRow (n : Int) : List Value := [.int .i64 n]

/-- The colour of what is never written again; of what is not ours: 0. -/
def IM : Nat := 1

structure Msg where
  kind : Int
  frm : Int
  to_ : Int
  epoch : Int
  lsn : Int
  value : Int
  scl : Int
  cuts : List (Int × Int)
  marks : List Int

/-- A list of cuts, of ints, that nobody writes any more. -/
def CutsIm (k : Nat → Nat) (w : World) (v : Value) (l : List (Int × Int)) : Prop := Rows k w IM 92 2 v (l.map cutRow)
def IntsIm (k : Nat → Nat) (w : World) (v : Value) (l : List Int) : Prop := Rows k w IM 3 1 v (l.map intRow)

/-- The nine cells of a message. -/
def MsgIs (k : Nat → Nat) (w : World) (m : Msg) (r : List Value) : Prop :=
  ∃ vc vm, r = [.int .i64 m.kind, .int .i64 m.frm, .int .i64 m.to_, .int .i64 m.epoch, .int .i64 m.lsn, .int .i64 m.value, .int .i64 m.scl, vc, vm] ∧ CutsIm k w vc m.cuts ∧ IntsIm k w vm m.marks

def PostIs (k : Nat → Nat) (w : World) (p : Msg × Bool) (r : List Value) : Prop := ∃ r0, MsgIs k w p.1 r0 ∧ r = r0 ++ [.bool p.2]

def All2 {A B : Type} (R : A → B → Prop) (xs : List A) (ys : List B) : Prop := xs.length = ys.length ∧ ∀ i (h : i < xs.length) (h2 : i < ys.length), R xs[i] ys[i]

/-- Colours of the document's volume. -/
def cY : Nat := 10
def cNet : Nat := 11

def flightOf (net : List (Msg × Bool)) : Nat := (net.filter (fun p => !p.2)).length

theorem flightOf_le (net : List (Msg × Bool)) : flightOf net ≤ net.length := List.length_filter_le _ _
theorem flightOf_snoc (net : List (Msg × Bool)) (n : Nat) (h : n < net.length) : flightOf (net.take (n + 1)) = flightOf (net.take n) + if net[n].2 then 0 else 1 := by
  unfold flightOf
  rw [List.take_succ_eq_append_getElem h, List.filter_append, List.length_append]
  cases hg : net[n].2 <;> simp [hg]

theorem CutsIm.evo {k k' : Nat → Nat} {w w' : World} {v : Value} {l : List (Int × Int)} {C : Nat → Prop} (h : CutsIm k w v l) (g : Evo k k' C w w') (hc : ¬ C IM) : CutsIm k' w' v l := Rows.evo h g hc
theorem IntsIm.evo {k k' : Nat → Nat} {w w' : World} {v : Value} {l : List Int} {C : Nat → Prop} (h : IntsIm k w v l) (g : Evo k k' C w w') (hc : ¬ C IM) : IntsIm k' w' v l := Rows.evo h g hc
theorem MsgIs.evo {k k' : Nat → Nat} {w w' : World} {m : Msg} {r : List Value} {C : Nat → Prop} (h : MsgIs k w m r) (g : Evo k k' C w w') (hc : ¬ C IM) : MsgIs k' w' m r := by
  obtain ⟨vc, vm, hr, h1, h2⟩ := h
  exact ⟨vc, vm, hr, h1.evo g hc, h2.evo g hc⟩
theorem PostIs.evo {k k' : Nat → Nat} {w w' : World} {m : Msg × Bool} {r : List Value} {C : Nat → Prop} (h : PostIs k w m r) (g : Evo k k' C w w') (hc : ¬ C IM) : PostIs k' w' m r := by
  obtain ⟨r0, h0, hr⟩ := h
  exact ⟨r0, h0.evo g hc, hr⟩
theorem All2.imp {A B : Type} {R S : A → B → Prop} {xs : List A} {ys : List B} (h : All2 R xs ys) (hs : ∀ x y, R x y → S x y) : All2 S xs ys := ⟨h.1, fun i a b => hs _ _ (h.2 i a b)⟩
theorem All2.snoc {A B : Type} {R : A → B → Prop} {xs : List A} {ys : List B} (h : All2 R xs ys) {x : A} {y : B} (hx : R x y) : All2 R (xs ++ [x]) (ys ++ [y]) := by
  refine ⟨by simp [h.1], fun i a b => ?_⟩
  by_cases hi : i < xs.length
  · rw [List.getElem_append_left hi, List.getElem_append_left (by rw [← h.1]; exact hi)]; exact h.2 i hi _
  · have e : i = xs.length := by simp at a; omega
    subst e
    have e2 : xs.length = ys.length := h.1
    simp only [List.getElem_append_right (Nat.le_refl _), List.getElem_append_right (Nat.le_of_eq e2.symm)]
    simpa using hx
theorem All2.set {A B : Type} {R : A → B → Prop} {xs : List A} {ys : List B} (h : All2 R xs ys) (i : Nat) {x : A} {y : B} (hx : R x y) : All2 R (xs.set i x) (ys.set i y) := by
  refine ⟨by simp [h.1], fun j a b => ?_⟩
  by_cases hj : i = j
  · subst hj; simpa using hx
  · simp only [List.getElem_set_ne hj]; exact h.2 j (by simpa using a) (by simpa using b)
/-- The cells of a message whose two lists are the values vc, vm. -/
def msgCells (m : Msg) (vc vm : Value) : List Value := [.int .i64 m.kind, .int .i64 m.frm, .int .i64 m.to_, .int .i64 m.epoch, .int .i64 m.lsn, .int .i64 m.value, .int .i64 m.scl, vc, vm]

theorem Rows.oneCell {k : Nat → Nat} {w : World} {c e size : Nat} {v : Value} {rows : List (List Value)} (h : Rows k w c e size v rows) : v.oneCell' = true := by
  obtain ⟨a, cap, rfl, _⟩ := h.form
  rfl

def sendNet (fl : Int) (net : List (Msg × Bool)) (m : Msg) : List (Msg × Bool) := if (flightOf net : Int) < fl then net ++ [(m, false)] else net

end Go.Proofs.Ytfpbkghcjaonlaa

/-
  sixfoldref: send (both ways), Top, Good.
-/
namespace Go.Proofs.Ytfpbkghcjaonlaa
open Go.RowKit

/-- A list of cuts as the walks ask for it. -/
theorem cuts_cells {k : Nat → Nat} {w : World} {c : Nat} {v : Value} {l : List (Int × Int)} (h : Rows k w c 92 2 v (l.map cutRow)) :
    ∃ a cap, v = .slice a l.length cap ∧ ∀ i, (hi : i < l.length) → ∃ b, a = some ⟨b, 0, none⟩ ∧ w.cell? ⟨b, i * 2, none⟩ = some (.int .i64 l[i].1) ∧ w.cell? ⟨b, i * 2 + 1, none⟩ = some (.int .i64 l[i].2) := by
  obtain ⟨a, cap, rfl, _⟩ := h.form
  refine ⟨a, cap, by simp, fun i hi => ?_⟩
  obtain ⟨b, cap', hv, _, _, _, hc, _⟩ := h.at (by simp; omega)
  simp at hv
  refine ⟨b, hv.1, ?_, ?_⟩
  · have := hc i 0 (by simpa using hi) (by omega)
    simpa [cutRow] using this
  · have := hc i 1 (by simpa using hi) (by omega)
    simpa [cutRow] using this

theorem ints_cells {k : Nat → Nat} {w : World} {c : Nat} {v : Value} {l : List Int} (h : Rows k w c 3 1 v (l.map intRow)) :
    ∃ a cap, v = .slice a l.length cap ∧ ∀ i, (hi : i < l.length) → ∃ b, a = some ⟨b, 0, none⟩ ∧ w.cell? ⟨b, i, none⟩ = some (.int .i64 l[i]) := by
  obtain ⟨a, cap, rfl, _⟩ := h.form
  refine ⟨a, cap, by simp, fun i hi => ?_⟩
  obtain ⟨b, cap', hv, _, _, _, hc, _⟩ := h.at (by simp; omega)
  simp at hv
  refine ⟨b, hv.1, ?_⟩
  have := hc i 0 (by simpa using hi) (by omega)
  simpa [intRow] using this

def topOf (l : List (Int × Int)) : Int := (l.getLast?.map (·.1)).getD 0

theorem topOf_take (l : List (Int × Int)) (j : Nat) (h : j < l.length) : topOf (l.take (j + 1)) = l[j].1 := by
  unfold topOf
  rw [List.take_succ_eq_append_getElem h, List.getLast?_append]
  simp only [List.getLast?_singleton, Option.some_or, Option.map_some, Option.getD_some]

/-- Good by a list of cuts. -/
def good (l : List (Int × Int)) (lsn ep : Int) : Bool := l.any (fun c => c.1 == ep) && l.all (fun c => !(decide (ep < c.1) && decide (c.2 < lsn)))
def goodIn (l : List (Int × Int)) (ep : Int) : Nat := (l.filter (fun c => c.1 == ep)).length
def goodBad (l : List (Int × Int)) (lsn ep : Int) : Nat := (l.filter (fun c => decide (ep < c.1) && decide (c.2 < lsn))).length
theorem goodIn_le (l : List (Int × Int)) (ep : Int) : goodIn l ep ≤ l.length := List.length_filter_le _ _
theorem goodBad_le (l : List (Int × Int)) (lsn ep : Int) : goodBad l lsn ep ≤ l.length := List.length_filter_le _ _
theorem goodIn_take (l : List (Int × Int)) (ep : Int) (j : Nat) (h : j < l.length) : goodIn (l.take (j + 1)) ep = goodIn (l.take j) ep + if l[j].1 == ep then 1 else 0 := by
  unfold goodIn
  rw [List.take_succ_eq_append_getElem h, List.filter_append, List.length_append]
  by_cases hg : (l[j].1 == ep) = true <;> simp [hg]
theorem goodBad_take (l : List (Int × Int)) (lsn ep : Int) (j : Nat) (h : j < l.length) : goodBad (l.take (j + 1)) lsn ep = goodBad (l.take j) lsn ep + if decide (ep < l[j].1) && decide (l[j].2 < lsn) then 1 else 0 := by
  unfold goodBad
  rw [List.take_succ_eq_append_getElem h, List.filter_append, List.length_append]
  by_cases hg : (decide (ep < l[j].1) && decide (l[j].2 < lsn)) = true <;> simp [hg]
theorem good_eq (l : List (Int × Int)) (lsn ep : Int) : good l lsn ep = (decide (0 < goodIn l ep) && decide (goodBad l lsn ep = 0)) := by
  unfold good goodIn goodBad
  congr 1
  · rw [Bool.eq_iff_iff]; simp [List.length_pos_iff, List.filter_eq_nil_iff]
  · rw [Bool.eq_iff_iff]; simp [List.filter_eq_nil_iff]
    refine ⟨fun h a b hm hl => ?_, fun h a b hm => ?_⟩
    · have := h a b hm; omega
    · by_cases hl : ep < a
      · exact .inr (h a b hm hl)
      · exact .inl (by omega)

end Go.Proofs.Ytfpbkghcjaonlaa

/-
  sixfoldref: entry, kept, Scl, epoch, list.
-/
namespace Go.Proofs.Ytfpbkghcjaonlaa
open Go.RowKit

structure Ent where
  lsn : Int
  epoch : Int
  value : Int
  kept : Bool
  gone : Bool

def entRow (e : Ent) : List Value := [.int .i64 e.lsn, .int .i64 e.epoch, .int .i64 e.value, .bool e.kept, .bool e.gone]

def entHit (lsn : Int) (e : Ent) : Bool := !e.gone && e.lsn == lsn
def entIdx (l : List Ent) (lsn : Int) : Option Nat := l.findIdx? (entHit lsn)
def entI (l : List Ent) (lsn : Int) : Int := ((entIdx l lsn).map (fun i => (i : Int))).getD (-1)

theorem entI_hit (l : List Ent) (lsn : Int) (j : Nat) (h : j < l.length) (hno : ∀ i, (hi : i < j) → entHit lsn (l[i]'(by omega)) = false) (hy : entHit lsn l[j] = true) : entI l lsn = j := by
  unfold entI entIdx
  have : l.findIdx? (entHit lsn) = some j := by
    rw [List.findIdx?_eq_some_iff_getElem]
    exact ⟨h, hy, fun i hi => by simp [hno i hi]⟩
  rw [this]; rfl
theorem entI_none (l : List Ent) (lsn : Int) (hno : ∀ i, (hi : i < l.length) → entHit lsn l[i] = false) : entI l lsn = -1 := by
  unfold entI entIdx
  have : l.findIdx? (entHit lsn) = none := by
    rw [List.findIdx?_eq_none_iff]
    intro x hx
    obtain ⟨i, hi, rfl⟩ := List.mem_iff_getElem.1 hx
    simpa using hno i hi
  rw [this]; rfl

/-- The record of a number, if it is kept: the zero one else. -/
def keptAt (l : List Ent) (lsn : Int) : Option Ent := (entIdx l lsn).bind fun i => l[i]?.bind fun e => if e.kept then some e else none
theorem entI_cases (l : List Ent) (lsn : Int) : (entI l lsn = -1 ∧ entIdx l lsn = none) ∨ ∃ i, (hi : i < l.length) → entI l lsn = (i : Int) ∧ entIdx l lsn = some i ∧ entHit lsn l[i] = true := by
  unfold entI
  cases h : entIdx l lsn with
  | none => exact .inl ⟨rfl, rfl⟩
  | some i => exact .inr ⟨i, fun hi => ⟨rfl, rfl, by
      have := (List.findIdx?_eq_some_iff_getElem.1 h).2.1; exact this⟩⟩
theorem entIdx_lt {l : List Ent} {lsn : Int} {i : Nat} (h : entIdx l lsn = some i) : i < l.length := (List.findIdx?_eq_some_iff_getElem.1 h).1

/-- What kept hands back. -/
def recVal (o : Option Ent) : Value := match o with | some e => .agg #[.int .i64 e.lsn, .int .i64 e.epoch, .int .i64 e.value] | none => .agg #[.int .i64 0, .int .i64 0, .int .i64 0]

end Go.Proofs.Ytfpbkghcjaonlaa

/-
  sixfoldref: Scl, epoch, list.
-/
namespace Go.Proofs.Ytfpbkghcjaonlaa
open Go.RowKit

def sclUp (l : List Ent) : Nat → Nat → Nat
  | 0, n => n
  | f + 1, n => if (keptAt l ((n : Int) + 1)).isSome then sclUp l f (n + 1) else n
def sclOf (l : List Ent) : Nat := sclUp l l.length 0

theorem pigeon (n : Nat) : ∀ l : List Int, (∀ i : Nat, 1 ≤ i → i ≤ n → (i : Int) ∈ l) → n ≤ l.length := by
  induction n with
  | zero => intro l _; omega
  | succ n ih =>
    intro l h
    have hm := h (n + 1) (by omega) (by omega)
    have := ih (l.erase ((n + 1 : Nat) : Int)) (fun i h1 h2 => (List.mem_erase_of_ne (by omega)).2 (h i h1 (by omega)))
    rw [List.length_erase_of_mem hm] at this
    have := List.length_pos_of_mem hm
    omega

theorem keptAt_mem {l : List Ent} {n : Int} (h : (keptAt l n).isSome = true) : n ∈ l.map Ent.lsn := by
  unfold keptAt at h
  cases hi : entIdx l n with
  | none => rw [hi] at h; simp at h
  | some i =>
    have h1 := (List.findIdx?_eq_some_iff_getElem.1 hi)
    obtain ⟨hlt, hh, _⟩ := h1
    unfold entHit at hh
    simp at hh
    exact List.mem_map.2 ⟨l[i], List.getElem_mem hlt, hh.2⟩

theorem kept_bound {l : List Ent} {n : Nat} (h : ∀ i : Nat, 1 ≤ i → i ≤ n → (keptAt l (i : Int)).isSome = true) : n ≤ l.length := by
  have := pigeon n (l.map Ent.lsn) (fun i h1 h2 => keptAt_mem (h i h1 h2))
  simpa using this

theorem sclUp_spec (l : List Ent) (m : Nat) (hno : (keptAt l ((m : Int) + 1)).isSome = false) : ∀ f n, n ≤ m → m ≤ n + f → (∀ i : Nat, n < i → i ≤ m → (keptAt l (i : Int)).isSome = true) → sclUp l f n = m := by
  intro f
  induction f with
  | zero => intro n h1 h2 _; simp only [sclUp]; omega
  | succ f ih =>
    intro n h1 h2 h
    simp only [sclUp]
    by_cases hn : n = m
    · subst hn; rw [hno]; simp
    · have := h (n + 1) (by omega) (by omega)
      rw [if_pos (by simpa using this)]
      exact ih (n + 1) (by omega) (by omega) (fun i a b => h i (by omega) b)

theorem sclOf_spec {l : List Ent} {m : Nat} (h : ∀ i : Nat, 1 ≤ i → i ≤ m → (keptAt l (i : Int)).isSome = true) (hno : (keptAt l ((m : Int) + 1)).isSome = false) : sclOf l = m :=
  sclUp_spec l m hno l.length 0 (by omega) (by have := kept_bound h; omega) (fun i a b => h i (by omega) b)

theorem recVal_form (o : Option Ent) : ∃ a b c : Int, recVal o = .agg #[.int .i64 a, .int .i64 b, .int .i64 c] := by
  cases o with
  | none => exact ⟨_, _, _, rfl⟩
  | some e => exact ⟨_, _, _, rfl⟩

/-- A list of lists of cuts. -/
def ListsIs (k : Nat → Nat) (w : World) (c : Nat) (v : Value) (ls : List (List (Int × Int))) : Prop :=
  ∃ rows, Rows k w c 63 1 v rows ∧ All2 (fun l r => ∃ x, r = [x] ∧ CutsIm k w x l) ls rows

theorem ListsIs.evo {k k' : Nat → Nat} {w w' : World} {c : Nat} {v : Value} {ls : List (List (Int × Int))} {C : Nat → Prop} (h : ListsIs k w c v ls) (g : Evo k k' C w w') (hc : ¬ C c) (hi : ¬ C IM) : ListsIs k' w' c v ls := by
  obtain ⟨rows, h1, h2⟩ := h
  exact ⟨rows, h1.evo g hc, h2.imp fun l r ⟨x, hr, hx⟩ => ⟨x, hr, hx.evo g hi⟩⟩

end Go.Proofs.Ytfpbkghcjaonlaa

/-
  sixfoldref: records, marks, come, sift.
-/
namespace Go.Proofs.Ytfpbkghcjaonlaa
open Go.RowKit

theorem Try.infoRecord : (Try.prog.info? 70).map (fun i => (i.zero, i.size, i.bytes)) = some (some (.agg #[.int .i64 0, .int .i64 0, .int .i64 0]), 3, 24) := by kernel_rfl
theorem Try.infoInt : (Try.prog.info? 3).map (fun i => (i.zero, i.size, i.bytes)) = some (some (.int .i64 0), 1, 8) := by kernel_rfl
theorem Try.infoCut : (Try.prog.info? 92).map (fun i => (i.zero, i.size, i.bytes)) = some (some (.agg #[.int .i64 0, .int .i64 0]), 2, 16) := by kernel_rfl
/-- The records of one kind with the numbers 1 to n. -/
def recsUp (l : List Ent) (kept : Bool) (n : Nat) : List Ent := (List.range n).filterMap fun (i : Nat) => (entIdx l ((i : Int) + 1)).bind fun j => l[j]?.bind fun e => if e.kept == kept then some e else none
def recRow (e : Ent) : List Value := [.int .i64 e.lsn, .int .i64 e.epoch, .int .i64 e.value]
theorem recsUp_succ (l : List Ent) (kept : Bool) (n : Nat) : recsUp l kept (n + 1) = recsUp l kept n ++ ((entIdx l ((n : Int) + 1)).bind fun j => l[j]?.bind fun e => if e.kept == kept then some e else none).toList := by
  unfold recsUp
  rw [List.range_succ, List.filterMap_append]
  congr 1
theorem recsUp_len (l : List Ent) (kept : Bool) (n : Nat) : (recsUp l kept n).length ≤ n := by
  unfold recsUp
  exact Nat.le_trans (List.length_filterMap_le _ _) (by simp)

end Go.Proofs.Ytfpbkghcjaonlaa

/-
  sixfoldref: marks, come, sift.
-/
namespace Go.Proofs.Ytfpbkghcjaonlaa
open Go.RowKit

def epochAt (l : List Ent) (n : Int) : Int := ((keptAt l n).map (·.epoch)).getD 0
def marksUp (l : List Ent) (n : Nat) : List Int := (List.range n).map fun (i : Nat) => epochAt l ((i : Int) + 1)
def marksOf (l : List Ent) : List Int := marksUp l (sclOf l)
theorem marksUp_succ (l : List Ent) (n : Nat) : marksUp l (n + 1) = marksUp l n ++ [epochAt l ((n : Int) + 1)] := by
  unfold marksUp; rw [List.range_succ, List.map_append]; rfl
theorem marksUp_len (l : List Ent) (n : Nat) : (marksUp l n).length = n := by simp [marksUp]
theorem sclUp_le (l : List Ent) : ∀ f n, sclUp l f n ≤ n + f := by
  intro f
  induction f with
  | zero => intro n; simp [sclUp]
  | succ f ih =>
    intro n
    simp only [sclUp]
    split
    · have := ih (n + 1); omega
    · omega
theorem sclOf_le (l : List Ent) : sclOf l ≤ l.length := by have := sclUp_le l l.length 0; unfold sclOf; omega
theorem recVal_epoch (l : List Ent) (n : Int) : ∃ a c : Int, recVal (keptAt l n) = .agg #[.int .i64 a, .int .i64 (epochAt l n), .int .i64 c] := by
  unfold epochAt
  cases keptAt l n with
  | none => exact ⟨_, _, rfl⟩
  | some e => exact ⟨_, _, rfl⟩

/-- What comes to a segment. -/
def comeTo (l : List Ent) (r : Int × Int × Int) : List Ent := if entIdx l r.1 = none then l ++ [⟨r.1, r.2.1, r.2.2, false, false⟩] else l

/-- What is not good by a list is gone. -/
def siftBy (cs : List (Int × Int)) (e : Ent) : Ent := if good cs e.lsn e.epoch then e else { e with gone := true }
def siftUp (cs : List (Int × Int)) (l : List Ent) (n : Nat) : List Ent := (l.take n).map (siftBy cs) ++ l.drop n

theorem siftUp_at (cs : List (Int × Int)) (l : List Ent) (j : Nat) (h : j < l.length) : (siftUp cs l j)[j]'(by simp [siftUp]; omega) = l[j] := by
  unfold siftUp
  rw [List.getElem_append_right (by simp; omega)]
  simp [show min j l.length = j from by omega]
theorem siftUp_succ (cs : List (Int × Int)) (l : List Ent) (j : Nat) (h : j < l.length) : siftUp cs l (j + 1) = (siftUp cs l j).set j (siftBy cs l[j]) := by
  unfold siftUp
  rw [List.set_append_right _ _ (by simp; omega)]
  simp only [List.length_map, List.length_take]
  rw [show j - min j l.length = 0 from by omega, List.drop_eq_getElem_cons h, List.set_cons_zero, List.take_succ_eq_append_getElem h, List.map_append]
  simp
theorem siftBy_same {cs : List (Int × Int)} {l : List Ent} {j : Nat} (h : j < l.length) (hg : good cs l[j].lsn l[j].epoch = true) : siftUp cs l (j + 1) = siftUp cs l j := by
  rw [siftUp_succ cs l j h]
  have e : siftBy cs l[j] = (siftUp cs l j)[j]'(by simp [siftUp]; omega) := by rw [siftUp_at cs l j h]; unfold siftBy; rw [if_pos hg]
  rw [e, List.set_getElem_self]

end Go.Proofs.Ytfpbkghcjaonlaa

/-
  sixfoldref: heardOf, noted, four.
-/
namespace Go.Proofs.Ytfpbkghcjaonlaa
open Go.RowKit

/-- A slice of messages. -/
def MsgsIs (k : Nat → Nat) (w : World) (c : Nat) (v : Value) (ms : List Msg) : Prop := ∃ rows, Rows k w c 99 9 v rows ∧ All2 (MsgIs k w) ms rows

theorem MsgsIs.evo {k k' : Nat → Nat} {w w' : World} {c : Nat} {v : Value} {ms : List Msg} {C : Nat → Prop} (h : MsgsIs k w c v ms) (g : Evo k k' C w w') (hc : ¬ C c) (hi : ¬ C IM) : MsgsIs k' w' c v ms := by
  obtain ⟨rows, h1, h2⟩ := h
  exact ⟨rows, h1.evo g hc, h2.imp fun l r x => x.evo g hi⟩

theorem msgs_cells {k : Nat → Nat} {w : World} {c : Nat} {v : Value} {ms : List Msg} (h : MsgsIs k w c v ms) :
    ∃ a cap, v = .slice a ms.length cap ∧ ∀ i, (hi : i < ms.length) → ∃ b vc vm, a = some ⟨b, 0, none⟩ ∧ w.cell? ⟨b, i * 9, none⟩ = some (.int .i64 ms[i].kind) ∧ w.cell? ⟨b, i * 9 + 1, none⟩ = some (.int .i64 ms[i].frm) ∧
      w.cell? ⟨b, i * 9 + 2, none⟩ = some (.int .i64 ms[i].to_) ∧ w.cell? ⟨b, i * 9 + 3, none⟩ = some (.int .i64 ms[i].epoch) ∧ w.cell? ⟨b, i * 9 + 4, none⟩ = some (.int .i64 ms[i].lsn) ∧
      w.cell? ⟨b, i * 9 + 5, none⟩ = some (.int .i64 ms[i].value) ∧ w.cell? ⟨b, i * 9 + 6, none⟩ = some (.int .i64 ms[i].scl) ∧ w.cell? ⟨b, i * 9 + 7, none⟩ = some vc ∧ w.cell? ⟨b, i * 9 + 8, none⟩ = some vm ∧
      CutsIm k w vc ms[i].cuts ∧ IntsIm k w vm ms[i].marks := by
  obtain ⟨rows, h1, h2⟩ := h
  have hlen := h2.1
  obtain ⟨a, cap, rfl, _⟩ := h1.form
  refine ⟨a, cap, by rw [hlen], fun i hi => ?_⟩
  obtain ⟨b, cap', hv, _, _, _, hc, _⟩ := h1.at (by omega)
  simp at hv
  obtain ⟨vc, vm, hr, hcc, hmm⟩ := h2.2 i hi (by omega)
  have f : ∀ j, j < 9 → w.cell? ⟨b, i * 9 + j, none⟩ = (msgCells ms[i] vc vm)[j]? := fun j hj => by rw [hc i j (by omega) hj, hr]; rfl
  exact ⟨b, vc, vm, hv.1, f 0 (by omega), f 1 (by omega), f 2 (by omega), f 3 (by omega), f 4 (by omega), f 5 (by omega), f 6 (by omega), f 7 (by omega), f 8 (by omega), hcc, hmm⟩

def heardIn (ms : List Msg) (s : Int) : Bool := ms.any (fun m => m.frm == s)
theorem heardIn_take (ms : List Msg) (s : Int) (j : Nat) (h : j < ms.length) : heardIn (ms.take (j + 1)) s = (heardIn (ms.take j) s || (ms[j].frm == s)) := by
  unfold heardIn; rw [List.take_succ_eq_append_getElem h, List.any_append]; simp
theorem heardIn_hit (ms : List Msg) (s : Int) (j : Nat) (h : j < ms.length) (he : (ms[j].frm == s) = true) : heardIn ms s = true := by
  unfold heardIn; rw [List.any_eq_true]; exact ⟨ms[j], List.getElem_mem h, he⟩

/-- What is noted of a segment. -/
def noteStep (s : Int) (n : Int) (m : Msg) : Int := if m.frm == s then (if n < m.scl then m.scl else n) else n
def notedN (ms : List Msg) (s : Int) : Int := ms.foldl (noteStep s) 0
theorem notedN_take (ms : List Msg) (s : Int) (j : Nat) (h : j < ms.length) : notedN (ms.take (j + 1)) s = noteStep s (notedN (ms.take j) s) ms[j] := by
  unfold notedN; rw [List.take_succ_eq_append_getElem h, List.foldl_append]; rfl

/-- Do four segments that were heard reach n? -/
def reach (ms : List Msg) (n s : Int) : Bool := heardIn ms s && decide (n ≤ notedN ms s)
def reachUp (ms : List Msg) (n : Int) (j : Nat) : Nat := ((List.range j).filter fun (s : Nat) => reach ms n s).length
def fourOf (ms : List Msg) (n : Int) : Bool := decide (4 ≤ reachUp ms n 6)
theorem reachUp_succ (ms : List Msg) (n : Int) (j : Nat) : reachUp ms n (j + 1) = reachUp ms n j + if reach ms n j then 1 else 0 := by
  unfold reachUp; rw [List.range_succ, List.filter_append, List.length_append]
  cases h : reach ms n j <;> simp [h]
theorem reachUp_le (ms : List Msg) (n : Int) (j : Nat) : reachUp ms n j ≤ j := by
  unfold reachUp; exact Nat.le_trans (List.length_filter_le _ _) (by simp)

end Go.Proofs.Ytfpbkghcjaonlaa
