/-
  append once more, with what it leaves of other slices of the same array.
-/
import Derived.Test.YtfpbkghcjaonlaaGreatLawB
import Derived.Deep.RegionLaw
namespace Go.Proofs.YtfpbkghcjaonlaaGreat
open Go.RowKit

/-- append, the slice's array coloured c. -/
theorem run_append_rows2 {P : Program} {k : Nat → Nat} {w : World} {c : Nat} (t ty e : TypeId) (i : TypeInfo) (z : Value) (size bytes : Nat) (ht : P.underlying t = some (.slice e)) (hi : P.info? e = some i) (hz : i.zero = some z)
    (hsize : i.size = size) (hby : i.bytes = bytes) (hzs : z.cells.size = size) (hsz : 0 < size) {v : Value} {rows : List (List Value)} (h : Rows k w c e size v rows)
    (a : Addr) (m cp : Nat) (news : List (List Value)) (hm : news.length = m) (hl : ∀ r ∈ news, r.length = size) (hnews : ∀ j u, news.flatten[j]? = some u → w.cell? (a.add j) = some u) (h1 : ∀ u ∈ news.flatten, u.oneCell' = true)
    (h63 : rows.length + m ≤ maxLen) (hbytes : (rows.length + m) * bytes ≤ 140737488355328) :
    ∃ v' w' k', (Builtin.append_ #[t, t] ty #[v, .slice (some a) m cp]).run P w = .ok v' w' ∧ Rows k' w' c e size v' (rows ++ news) ∧ Evo k k' (fun x => x = c) w w' ∧ (∀ v0 rows0, Rows k w c e size v0 rows0 → rows0.length ≤ rows.length → Rows k' w' c e size v0 rows0) := by
  subst hm
  have hfl : news.flatten.length = news.length * size := flatten_len hl
  have hrl : rows.flatten.length = rows.length * size := flatten_len h.len
  have hla : ∀ r ∈ rows ++ news, r.length = size := fun r hr => by
    rcases List.mem_append.1 hr with hr | hr
    · exact h.len r hr
    · exact hl r hr
  have ho := h.own
  have hgr : ∀ w', w.grownBy w' none → ∀ v0 rows0, Rows k w c e size v0 rows0 → Rows (fun b => if b < w.heap.size then k b else c) w' c e size v0 rows0 := fun w' g v0 rows0 h0 =>
    h0.evo (C := noC) ⟨g.os, g.tape, g.output, g.size, fun b hb => if_pos hb, fun b hb _ => g.block b hb (by simp)⟩ (noC_not _)
  have hev : ∀ w', w.grownBy w' none → Evo k (fun b => if b < w.heap.size then k b else c) (fun x => x = c) w w' := fun w' g =>
    ⟨g.os, g.tape, g.output, g.size, fun b hb => if_pos hb, fun b hb _ => g.block b hb (by simp)⟩
  rcases ho.2 with ⟨rfl, hz0⟩ | ⟨g, cap, cur, rfl, hg0, hg, hc, hcm, hcs, htk⟩
  · obtain ⟨v', w', hrun, r1, r2, _⟩ := run_append_own (P := P) w w.heap.size t ty e i z size bytes ht hi hz hsize hby hzs hsz (.slice none 0 0) 0 [] (World.ownsRow_nil w _ e size) a news.length cp news.flatten hfl hnews h1 (by omega) (by rw [hz0] at hbytes; simpa using hbytes) (Nat.le_refl _)
    have hr0 : rows = [] := List.length_eq_zero_iff.1 hz0
    subst hr0
    exact ⟨v', w', _, hrun, Rows.fresh (n := 0 + news.length) c hla (by simp) (by simpa using r1), hev w' r2, fun v0 rows0 h0 _ => hgr w' r2 v0 rows0 h0⟩
  · by_cases hroom : rows.length + news.length ≤ cap
    · subst hsize
      have hle : (rows.length + news.length) * i.size ≤ cap * i.size := Nat.mul_le_mul_right _ hroom
      rw [Nat.add_mul] at hle
      have hrun := run_append_room (P := P) w t ty e i ht hi g rows.length cap cur hg a news.length cp news.flatten hfl hnews h1 hroom (by rw [hfl, hcs]; omega)
      refine ⟨_, _, k, hrun, ⟨hla, ⟨?_, .inr ⟨g, cap, (cur.toList.take (rows.length * i.size) ++ news.flatten ++ cur.toList.drop (rows.length * i.size + news.flatten.length)).toArray, by simp, hg0, ?_, by simpa using hroom, hcm, ?_, ?_⟩⟩, h.col⟩, ?_, ?_⟩
      · rw [flatten_len hla]
      · simp only [World.setRow]
        rw [Array.getElem?_modify]
        simp [hg]
      · have hmin : min rows.length cap = rows.length := by omega
        simp [hfl, hcs]
        first | omega | (rw [hmin]; omega)
      · rw [List.toList_toArray, htk, List.flatten_append]
        rw [List.take_append_of_le_length (by simp [hrl, hfl, Nat.add_mul])]
        rw [List.take_of_length_le (by simp [hrl, hfl, Nat.add_mul])]
      · refine ⟨rfl, rfl, rfl, by simp, fun _ _ => rfl, fun b hb hcol => ?_⟩
        have hbg : b ≠ g := fun e => hcol (by rw [e]; exact h.col g rfl)
        simp only [World.setRow]
        rw [Array.getElem?_modify, if_neg (fun e => hbg e.symm)]
      · intro v0 rows0 h0 hle0
        refine ⟨h0.len, ⟨h0.own.1, ?_⟩, h0.col⟩
        rcases h0.own.2 with hn | ⟨g0, cap0, cur0, hv0, hg00, hg0', hc0, hcm0, hcs0, htk0⟩
        · exact .inl hn
        · by_cases hgg : g0 = g
          · subst hgg
            rw [hg] at hg0'
            simp only [Option.some.injEq, Obj.cells.injEq, and_true] at hg0'
            subst hg0'
            refine .inr ⟨g0, cap0, (cur.toList.take (rows.length * i.size) ++ news.flatten ++ cur.toList.drop (rows.length * i.size + news.flatten.length)).toArray, hv0, hg00, ?_, hc0, hcm0, ?_, ?_⟩
            · simp only [World.setRow]
              rw [Array.getElem?_modify]
              simp [hg]
            · have hmin : min rows.length cap = rows.length := by omega
              rw [← hcs0]
              simp [hfl, hcs]
              first | omega | (rw [hmin]; omega)
            · rw [List.toList_toArray, List.append_assoc, List.take_append_of_le_length (by
                have : rows0.length * i.size ≤ rows.length * i.size := Nat.mul_le_mul_right _ hle0
                have h9 : cur.toList.length = cap * i.size := by simpa using hcs
                rw [List.length_take, h9, Nat.min_eq_left (Nat.mul_le_mul_right _ hc)]; exact this), List.take_take, Nat.min_eq_left (Nat.mul_le_mul_right _ hle0)]
              exact htk0
          · refine .inr ⟨g0, cap0, cur0, hv0, hg00, ?_, hc0, hcm0, hcs0, htk0⟩
            simp only [World.setRow]
            rw [Array.getElem?_modify, if_neg (fun e => hgg e.symm)]
            exact hg0'
    · obtain ⟨v', w', hrun, r1, r2⟩ := run_append_arg_grows (P := P) w t ty e i z size bytes ht hi hz hsize hby hzs hsz ⟨g, 0, none⟩ rows.length cap rows.flatten hrl (ho.cells rfl) a news.length cp news.flatten hfl hnews (by omega) h63 hbytes
      refine ⟨v', w', _, hrun, Rows.fresh (n := rows.length + news.length) c hla (by simp) (by rw [List.flatten_append]; exact r1), hev w' r2, fun v0 rows0 h0 _ => hgr w' r2 v0 rows0 h0⟩

/-- append onto a coloured slice, outside a region that draws. -/
theorem wpList_append_rows2 {P : Program} {w : World} {ops : Array Oper} {rest : List Oper} {o : Oper} {a : Act} {Q : Exit → Act → World → Prop}
    (k : Nat → Nat) (c : Nat) (s x : Operand) (t e : TypeId) (z : Value) (size bytes : Nat) (v : Value) (rows news : List (List Value)) (n : Nat) (ad : Addr) (m cp : Nat) (hrn : rows.length = n)
    (hg : o.guard = none) (hop : o.op = Op.call { callee := Callee.builtin Builtin.append, args := #[s, x], argTypes := #[t, t] })
    (ht : P.underlying t = some (.slice e)) (hinf : (P.info? e).map (fun i => (i.zero, i.size, i.bytes)) = some (some z, size, bytes)) (hzs : z.cells.size = size) (hsz : 0 < size)
    (hs : a.eval s = v) (hx : a.eval x = .slice (some ad) m cp) (h : Rows k w c e size v rows)
    (hm : news.length = m) (hl : ∀ r ∈ news, r.length = size) (hnews : ∀ j u, news.flatten[j]? = some u → w.cell? (ad.add j) = some u) (h1 : ∀ u ∈ news.flatten, u.oneCell' = true)
    (h63 : n + m ≤ maxLen) (hbytes : (n + m) * bytes ≤ 140737488355328)
    (hK : ∀ ao cap' w' k', Rows k' w' c e size (.slice ao (n + m) cap') (rows ++ news) → Evo k k' (fun x => x = c) w w' → (∀ v0 rows0, Rows k w c e size v0 rows0 → rows0.length ≤ n → Rows k' w' c e size v0 rows0) → wpList P ops Q rest (a.put o.dst (.slice ao (n + m) cap')) w') :
    wpList P ops Q (o :: rest) a w := by
  subst hrn
  refine wpList_plain hg fun K hK' => ?_
  obtain ⟨i, hi, hz0, hz1, hz2⟩ := info_parts hinf
  obtain ⟨v', w', k', hrun, r1, r2, r3⟩ := run_append_rows2 (P := P) t o.type e i z size bytes ht hi hz0 hz1 hz2 hzs hsz h ad m cp news hm hl hnews h1 h63 hbytes
  subst hs
  unfold Oper.wp
  simp [execOp, hop, resolve, invoke, builtin, hx, hrun, Result.andThen]
  obtain ⟨ao, cap', hv, _⟩ := r1.form
  rw [List.length_append, hm] at hv
  subst hv
  exact hK' _ _ (hK ao cap' w' k' r1 r2 r3)

end Go.Proofs.YtfpbkghcjaonlaaGreat
