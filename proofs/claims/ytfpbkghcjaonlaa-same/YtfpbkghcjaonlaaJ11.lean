import Derived.Test.YtfpbkghcjaonlaaJ10
/-
  The simulation: lists of cuts, bases, what four reach.
-/
namespace Go.Proofs.Ytfpbkghcjaonlaa.Sim

theorem topOf_snoc (l : List (Int × Int)) (c : Int × Int) : topOf (l ++ [c]) = c.1 := by unfold topOf; simp
theorem topOf_dec (f : List Msg) (n : Int) : topOf (decCuts f n) = n := by unfold decCuts; rw [topOf_snoc]
theorem Dec.pos {pens : List RPen} {n : Int} {p : RPen} (d : Dec pens n p) : 1 ≤ n := by obtain ⟨i, h, _⟩ := d; omega
theorem Dec.uniq {pens : List RPen} {n : Int} {p q : RPen} (d : Dec pens n p) (e : Dec pens n q) : p = q := by
  obtain ⟨i, h, hi, _⟩ := d
  obtain ⟨j, h', hj, _⟩ := e
  have : i = j := by omega
  subst this
  rw [hi] at hj; exact Option.some.inj hj
theorem Dec.le {pens : List RPen} {n : Int} {p : RPen} (d : Dec pens n p) : n ≤ (pens.length : Int) := by
  obtain ⟨i, h, hi, _⟩ := d
  have := (List.getElem?_eq_some_iff.1 hi).1
  omega
theorem CutsInv.dec {pens : List RPen} {l : List (Int × Int)} (c : CutsInv pens l) (h : topOf l ≠ 0) : ∃ p, Dec pens (topOf l) p ∧ l = decCuts p.fenced (topOf l) := by
  rcases c with rfl | ⟨n, p, d, rfl⟩
  · exact absurd rfl h
  · exact ⟨p, by rw [topOf_dec]; exact d, by rw [topOf_dec]⟩
theorem CutsInv.zero {pens : List RPen} {l : List (Int × Int)} (c : CutsInv pens l) (h : topOf l = 0) : l = [] := by
  rcases c with rfl | ⟨n, p, d, rfl⟩
  · rfl
  · rw [topOf_dec] at h; have := d.pos; omega
theorem CutsInv.top0 {pens : List RPen} {l : List (Int × Int)} (c : CutsInv pens l) : 0 ≤ topOf l := by
  rcases c with rfl | ⟨n, p, d, rfl⟩
  · decide
  · rw [topOf_dec]; have := d.pos; omega
theorem CutsInv.uniq {pens : List RPen} {l l' : List (Int × Int)} (c : CutsInv pens l) (d : CutsInv pens l') (h : topOf l = topOf l') : l = l' := by
  by_cases h0 : topOf l = 0
  · rw [c.zero h0, d.zero (by omega)]
  · obtain ⟨p, d1, h1⟩ := c.dec h0
    obtain ⟨q, d2, h2⟩ := d.dec (by omega)
    rw [← h] at d2 h2
    rw [h1, h2, d1.uniq d2]

theorem newest_best {pens : List RPen} (f : List Msg) (hf : ∀ m ∈ f, CutsInv pens m.cuts) : newestOf (f.map note3) = f.foldl bestStep [] ∧ CutsInv pens (f.foldl bestStep []) := by
  unfold newestOf
  have key : ∀ (f : List Msg) (b : List (Int × Int)), (∀ m ∈ f, CutsInv pens m.cuts) → CutsInv pens b → (f.map note3).foldl newestStep b = f.foldl bestStep b ∧ CutsInv pens (f.foldl bestStep b) := by
    intro f
    induction f with
    | nil => intro b _ hb; exact ⟨rfl, hb⟩
    | cons m r ih =>
      intro b hf hb
      have hm := hf m List.mem_cons_self
      simp only [List.map_cons, List.foldl_cons]
      have e : newestStep b (note3 m) = bestStep b m := by
        unfold newestStep bestStep note3
        simp only
        by_cases h1 : topOf b < topOf m.cuts
        · rw [if_pos h1, if_pos (by omega)]
        · rw [if_neg h1]
          by_cases h2 : topOf b ≤ topOf m.cuts
          · rw [if_pos h2]; exact hb.uniq hm (by omega)
          · rw [if_neg h2]
      rw [e]
      refine ih _ (fun m' h' => hf m' (List.mem_cons_of_mem _ h')) ?_
      unfold bestStep
      split
      · exact hm
      · exact hb
  exact key f [] hf (.inl rfl)
theorem bestUp_all {f : List Msg} (h : f.length ≤ 4) : bestUp f 4 = f.foldl bestStep [] := by
  unfold bestUp; rw [List.take_of_length_le h]

theorem okUp_mono (l : List (Int × Int)) (ms : List Int) {a b : Nat} (h : a ≤ b) (hb : okUp l ms b = true) : okUp l ms a = true := by
  unfold okUp at *
  rw [List.all_eq_true] at *
  intro i hi
  exact hb i (by simp at *; omega)
theorem reach_spec (l : List (Int × Int)) (ms : List Int) : reachFrom l 0 ms ≤ ms.length ∧ okUp l ms (reachFrom l 0 ms) = true ∧ (reachFrom l 0 ms < ms.length → okUp l ms (reachFrom l 0 ms + 1) = false) := by
  have key : ∀ d j, j + d = ms.length → okUp l ms j = true → reachFrom l j (ms.drop j) ≤ ms.length ∧ okUp l ms (reachFrom l j (ms.drop j)) = true ∧ (reachFrom l j (ms.drop j) < ms.length → okUp l ms (reachFrom l j (ms.drop j) + 1) = false) := by
    intro d
    induction d with
    | zero =>
      intro j h1 h2
      rw [List.drop_eq_nil_of_le (by omega)]
      exact ⟨by simp only [reachFrom]; omega, by simpa only [reachFrom] using h2, fun h => by simp only [reachFrom] at h; omega⟩
    | succ d ih =>
      intro j h1 h2
      have hj : j < ms.length := by omega
      rw [reachFrom_drop l ms j hj]
      have hs : okUp l ms (j + 1) = (okUp l ms j && good l ((j : Int) + 1) (ms.getD j 0)) := by
        unfold okUp; rw [List.range_succ, List.all_append]; simp
      have hg : ms.getD j 0 = ms[j] := by rw [List.getD_eq_getElem?_getD, List.getElem?_eq_getElem hj]; rfl
      rw [hg, h2, Bool.true_and] at hs
      cases hgo : good l ((j : Int) + 1) ms[j] with
      | true =>
        rw [hgo] at hs
        exact ih (j + 1) (by omega) hs
      | false =>
        rw [hgo] at hs
        exact ⟨by simp; omega, by simpa using h2, fun _ => by simpa using hs⟩
  have := key ms.length 0 (by omega) (by simp [okUp])
  simpa using this
theorem baseUp_eq (l : List (Int × Int)) (ms : List Int) (b0 : Nat) : baseUp l ms b0 ms.length = if b0 < reachFrom l 0 ms then reachFrom l 0 ms else b0 := by
  obtain ⟨h1, h2, h3⟩ := reach_spec l ms
  generalize reachFrom l 0 ms = R at *
  have key : ∀ n, n ≤ ms.length → baseUp l ms b0 n = if b0 < min n R then min n R else b0 := by
    intro n
    induction n with
    | zero => intro _; simp [baseUp]
    | succ n ih =>
      intro hn
      simp only [baseUp]
      rw [ih (by omega)]
      by_cases hr : n + 1 ≤ R
      · rw [okUp_mono l ms hr h2]
        rw [show min n R = n from by omega, show min (n + 1) R = n + 1 from by omega]
        by_cases hb : b0 < n
        · rw [if_pos hb, if_pos (show b0 < n + 1 by omega)]; simp
        · rw [if_neg hb]
          by_cases hb2 : b0 < n + 1
          · simp [hb2]
          · simp [hb2]
      · have hf : okUp l ms (n + 1) = false := by
          cases ho : okUp l ms (n + 1) with
          | false => rfl
          | true =>
            have := okUp_mono l ms (show R + 1 ≤ n + 1 by omega) ho
            rw [h3 (by omega)] at this
            simp at this
        rw [hf]
        simp only [Bool.false_and, Bool.false_eq_true, if_false]
        rw [show min (n + 1) R = min n R from by omega]
  have := key ms.length (Nat.le_refl _)
  rw [this, show min ms.length R = R from by omega]
theorem baseAll_eq (l : List (Int × Int)) (f : List Msg) : ∀ n, n ≤ f.length → baseAll l f n = ((f.take n).map note3).foldl (baseStep l) 0
  | 0, _ => rfl
  | n + 1, h => by
    rw [show baseAll l f (n + 1) = baseUp l f[n].marks (baseAll l f n) f[n].marks.length from by simp only [baseAll]; rw [List.getElem?_eq_getElem (by omega)]]
    rw [baseUp_eq, baseAll_eq l f n (by omega), List.take_succ_eq_append_getElem (by omega), List.map_append, List.foldl_append]
    rfl
theorem base_eq {f : List Msg} (h : f.length = 4) : (f.map note3).foldl (baseStep (bestUp f 4)) 0 = baseOf f := by
  unfold baseOf
  rw [baseAll_eq _ f 4 (by omega), List.take_of_length_le (by omega)]
theorem baseOf_le40 {f : List Msg} (hf : ∀ m ∈ f, m.marks.length ≤ 40) : baseOf f ≤ 40 := by
  unfold baseOf
  have : ∀ n, baseAll (bestUp f 4) f n ≤ 40 := by
    intro n
    induction n with
    | zero => simp [baseAll]
    | succ n ih =>
      simp only [baseAll]
      cases hn : f[n]? with
      | none => exact ih
      | some m =>
        simp only
        rw [baseUp_eq]
        have h1 := (reach_spec (bestUp f 4) m.marks).1
        have h2 := hf m (List.mem_of_getElem? hn)
        split <;> omega
  exact this 4

theorem heardIn_snoc (st : List Msg) (m : Msg) (s : Int) : heardIn (st ++ [m]) s = (heardIn st s || (m.frm == s)) := by unfold heardIn; simp
theorem notedN_snoc (st : List Msg) (m : Msg) (s : Int) : notedN (st ++ [m]) s = noteStep s (notedN st s) m := by unfold notedN; rw [List.foldl_append]; rfl
theorem heardL_get (st : List Msg) (s : Nat) (h : s < 6) : (heardL st).getD s false = heardIn st (s : Int) := by
  unfold heardL; rw [List.getD_eq_getElem?_getD, List.getElem?_map, List.getElem?_range h]; rfl
theorem notedL_get (st : List Msg) (s : Nat) (h : s < 6) : (notedL st).getD s 0 = notedN st (s : Int) := by
  unfold notedL; rw [List.getD_eq_getElem?_getD, List.getElem?_map, List.getElem?_range h]; rfl
theorem heardL_snoc (st : List Msg) (m : Msg) (h0 : 0 ≤ m.frm) (h6 : m.frm < 6) : heardL (st ++ [m]) = (heardL st).set m.frm.toNat true := by
  unfold heardL
  apply List.ext_getElem?
  intro i
  rw [List.getElem?_set]
  simp only [List.getElem?_map, List.length_map, List.length_range]
  by_cases e : m.frm.toNat = i
  · subst e
    rw [if_pos rfl, if_pos (by omega), List.getElem?_range (by omega)]
    simp only [Option.map_some, heardIn_snoc]
    rw [show ((m.frm.toNat : Nat) : Int) = m.frm from by omega]; simp
  · rw [if_neg e]
    by_cases hi : i < 6
    · rw [List.getElem?_range hi]
      simp only [Option.map_some, heardIn_snoc]
      rw [show (m.frm == (i : Int)) = false from by simp; omega]; simp
    · rw [List.getElem?_eq_none (by simp; omega)]; rfl
theorem notedL_snoc (st : List Msg) (m : Msg) (h0 : 0 ≤ m.frm) (h6 : m.frm < 6) : notedL (st ++ [m]) = if (notedL st).getD m.frm.toNat 0 < m.scl then (notedL st).set m.frm.toNat m.scl else notedL st := by
  have ef : ((m.frm.toNat : Nat) : Int) = m.frm := by omega
  rw [notedL_get st _ (by omega), ef]
  have key : notedL (st ++ [m]) = (notedL st).set m.frm.toNat (if notedN st m.frm < m.scl then m.scl else notedN st m.frm) := by
    unfold notedL
    apply List.ext_getElem?
    intro i
    rw [List.getElem?_set]
    simp only [List.getElem?_map, List.length_map, List.length_range]
    by_cases e : m.frm.toNat = i
    · subst e
      rw [if_pos rfl, if_pos (by omega), List.getElem?_range (by omega)]
      simp only [Option.map_some, notedN_snoc, noteStep, ef]; simp
    · rw [if_neg e]
      by_cases hi : i < 6
      · rw [List.getElem?_range hi]
        simp only [Option.map_some, notedN_snoc, noteStep]
        rw [show (m.frm == (i : Int)) = false from by simp; omega]; simp
      · rw [List.getElem?_eq_none (by simp; omega)]; rfl
  rw [key]
  split
  · rfl
  · apply List.ext_getElem?
    intro i
    rw [List.getElem?_set]
    by_cases e : m.frm.toNat = i
    · subst e
      rw [if_pos rfl, if_pos (by simp [notedL]; omega)]
      unfold notedL
      rw [List.getElem?_map, List.getElem?_range (by omega), Option.map_some, ef]
    · rw [if_neg e]

theorem readyN_eq (x : XWr) (st : List Msg) (h1 : x.heard = heardL st) (h2 : x.noted = notedL st) : x.readyN = reachUp st x.base 6 := by
  unfold XWr.readyN reachUp
  congr 1
  apply List.filter_congr
  intro s hs
  have hs6 : s < 6 := by simpa using hs
  rw [h1, h2, heardL_get st s hs6, notedL_get st s hs6]; rfl

theorem notedN_nonneg (st : List Msg) (s : Int) : 0 ≤ notedN st s := by
  unfold notedN
  have : ∀ (l : List Msg) (b : Int), 0 ≤ b → 0 ≤ l.foldl (noteStep s) b := by
    intro l
    induction l with
    | nil => intro b hb; exact hb
    | cons a r ih =>
      intro b hb
      refine ih _ ?_
      unfold noteStep
      split
      · split <;> omega
      · exact hb
  exact this st 0 (Int.le_refl 0)
theorem notedN_le (st : List Msg) (s B : Int) (hB : 0 ≤ B) (h : ∀ m ∈ st, m.scl ≤ B) : notedN st s ≤ B := by
  unfold notedN
  have : ∀ (l : List Msg) (b : Int), (∀ m ∈ l, m.scl ≤ B) → b ≤ B → l.foldl (noteStep s) b ≤ B := by
    intro l
    induction l with
    | nil => intro b _ hb; exact hb
    | cons a r ih =>
      intro b hl hb
      refine ih _ (fun m hm => hl m (List.mem_cons_of_mem _ hm)) ?_
      have := hl a List.mem_cons_self
      unfold noteStep
      split
      · split <;> omega
      · exact hb
  exact this st 0 h hB
theorem notedN_heard (st : List Msg) (s : Int) (h : 1 ≤ notedN st s) : heardIn st s = true := by
  cases hh : heardIn st s with
  | true => rfl
  | false =>
    exfalso
    have : ∀ (l : List Msg) (b : Int), (l.any fun m => m.frm == s) = false → l.foldl (noteStep s) b = b := by
      intro l
      induction l with
      | nil => intro b _; rfl
      | cons a r ih =>
        intro b hl
        rw [List.any_cons, Bool.or_eq_false_iff] at hl
        rw [List.foldl_cons, ih _ hl.2]
        unfold noteStep
        rw [hl.1]; rfl
    have h2 := this st 0 hh
    unfold notedN at h
    rw [h2] at h
    omega
theorem notedN_mono (st : List Msg) (m : Msg) (s : Int) : notedN st s ≤ notedN (st ++ [m]) s := by
  rw [notedN_snoc]; unfold noteStep
  split
  · split <;> omega
  · omega
theorem fourOf_mono (st : List Msg) (m : Msg) (n : Int) (h : fourOf st n = true) : fourOf (st ++ [m]) n = true := by
  unfold fourOf at *
  simp only [decide_eq_true_eq] at *
  refine Nat.le_trans h ?_
  unfold reachUp
  rw [← List.countP_eq_length_filter, ← List.countP_eq_length_filter]
  apply List.countP_mono_left
  intro s _ hs
  unfold reach at *
  rw [Bool.and_eq_true, decide_eq_true_eq] at *
  have := notedN_mono st m (s : Int)
  refine ⟨?_, by omega⟩
  rw [heardIn_snoc, hs.1]; rfl

/-- The greatest number that four reach. -/
theorem durUp_spec (st : List Msg) (base : Nat) : ∀ j, fourOf st (base : Int) = true → base ≤ durUp st base (j + 1) ∧ durUp st base (j + 1) ≤ base + j ∧ fourOf st (durUp st base (j + 1) : Int) = true ∧ ∀ n : Nat, base ≤ n → n ≤ base + j → fourOf st (n : Int) = true → n ≤ durUp st base (j + 1)
  | 0, h => by
    have e : durUp st base 1 = base := by simp only [durUp]; rw [if_pos (by simpa using h)]; rfl
    rw [e]
    exact ⟨Nat.le_refl _, Nat.le_refl _, h, fun n a b _ => by omega⟩
  | j + 1, h => by
    obtain ⟨h1, h2, h3, h4⟩ := durUp_spec st base j h
    by_cases hf : fourOf st ((base + (j + 1) : Nat) : Int) = true
    · have e : durUp st base (j + 1 + 1) = base + (j + 1) := by
        rw [show durUp st base (j + 1 + 1) = if fourOf st ((base + (j + 1) : Nat) : Int) then base + (j + 1) else durUp st base (j + 1) from rfl, if_pos hf]
      rw [e]
      exact ⟨by omega, by omega, hf, fun n a b _ => by omega⟩
    · have e : durUp st base (j + 1 + 1) = durUp st base (j + 1) := by
        rw [show durUp st base (j + 1 + 1) = if fourOf st ((base + (j + 1) : Nat) : Int) then base + (j + 1) else durUp st base (j + 1) from rfl, if_neg hf]
      rw [e]
      refine ⟨h1, by omega, h3, fun n a b c => ?_⟩
      by_cases hn : n = base + (j + 1)
      · subst hn; exact absurd c hf
      · exact h4 n a (by omega) c

theorem reaching_eq (x : XWr) (st : List Msg) (h2 : x.noted = notedL st) (n : Int) : x.reaching n = ((List.range 6).filter fun (s : Nat) => decide (n ≤ notedN st (s : Int))).length := by
  unfold XWr.reaching
  rw [h2]; unfold notedL
  rw [List.filter_map, List.length_map]
  rfl
theorem four_reaching (x : XWr) (st : List Msg) (h2 : x.noted = notedL st) (n : Int) (hn : 1 ≤ n) : fourOf st n = decide (4 ≤ x.reaching n) := by
  rw [reaching_eq x st h2]
  unfold fourOf reachUp
  congr 2
  congr 1
  apply List.filter_congr
  intro s _
  unfold reach
  by_cases h : n ≤ notedN st (s : Int)
  · rw [notedN_heard st s (by omega)]; simp
  · simp [h]
theorem agreed_spec (x : XWr) : (x.agreed = 0 ∨ (x.agreed ∈ x.noted ∧ 4 ≤ x.reaching x.agreed ∧ 0 < x.agreed)) ∧ ∀ n ∈ x.noted, 4 ≤ x.reaching n → n ≤ x.agreed := by
  unfold XWr.agreed
  have key : ∀ (l : List Int) (b : Int), (∀ n ∈ l, n ∈ x.noted) → (b = 0 ∨ (b ∈ x.noted ∧ 4 ≤ x.reaching b ∧ 0 < b)) → ((l.foldl (agreedStep x) b) = 0 ∨ ((l.foldl (agreedStep x) b) ∈ x.noted ∧ 4 ≤ x.reaching (l.foldl (agreedStep x) b) ∧ 0 < l.foldl (agreedStep x) b)) ∧ b ≤ l.foldl (agreedStep x) b ∧ ∀ n ∈ l, 4 ≤ x.reaching n → n ≤ l.foldl (agreedStep x) b := by
    intro l
    induction l with
    | nil => intro b _ hb; exact ⟨hb, Int.le_refl _, fun n hn => by simp at hn⟩
    | cons a r ih =>
      intro b hl hb
      simp only [List.foldl_cons]
      have hs : (agreedStep x b a = 0 ∨ (agreedStep x b a ∈ x.noted ∧ 4 ≤ x.reaching (agreedStep x b a) ∧ 0 < agreedStep x b a)) ∧ b ≤ agreedStep x b a ∧ (4 ≤ x.reaching a → a ≤ agreedStep x b a) := by
        unfold agreedStep
        split
        · rename_i h
          exact ⟨.inr ⟨hl a List.mem_cons_self, h.2, by rcases hb with hb | hb <;> omega⟩, by omega, fun _ => Int.le_refl _⟩
        · rename_i h
          exact ⟨hb, Int.le_refl _, fun h4 => by
            by_cases hba : b < a
            · exact absurd ⟨hba, h4⟩ h
            · omega⟩
      obtain ⟨h1, h2, h3⟩ := ih (agreedStep x b a) (fun n hn => hl n (List.mem_cons_of_mem _ hn)) hs.1
      refine ⟨h1, Int.le_trans hs.2.1 h2, fun n hn h4 => ?_⟩
      rcases List.mem_cons.1 hn with rfl | hn
      · exact Int.le_trans (hs.2.2 h4) h2
      · exact h3 n hn h4
  obtain ⟨h1, _, h3⟩ := key x.noted 0 (fun _ h => h) (.inl rfl)
  exact ⟨h1, h3⟩
theorem reach_down (x : XWr) (D : Int) (h : 4 ≤ x.reaching D) : ∃ n ∈ x.noted, D ≤ n ∧ 4 ≤ x.reaching n := by
  unfold XWr.reaching at *
  have hne : x.noted.filter (fun m => decide (D ≤ m)) ≠ [] := by
    intro h0; rw [h0] at h; simp at h
  have key : ∀ l : List Int, l ≠ [] → ∃ n ∈ l, ∀ m ∈ l, n ≤ m := by
    intro l
    induction l with
    | nil => intro h; exact absurd rfl h
    | cons a r ih =>
      intro _
      by_cases hr : r = []
      · subst hr; exact ⟨a, List.mem_cons_self, fun m hm => by rw [List.mem_singleton.1 hm]; exact Int.le_refl _⟩
      · obtain ⟨n, hn, hm⟩ := ih hr
        by_cases hl : n ≤ a
        · exact ⟨n, List.mem_cons_of_mem _ hn, fun m h => by rcases List.mem_cons.1 h with rfl | h; exact hl; exact hm m h⟩
        · exact ⟨a, List.mem_cons_self, fun m h => by
            rcases List.mem_cons.1 h with rfl | h
            · exact Int.le_refl _
            · have := hm m h; omega⟩
  obtain ⟨n, hn, hm⟩ := key _ hne
  obtain ⟨h1, h2⟩ := List.mem_filter.1 hn
  refine ⟨n, h1, by simpa using h2, Nat.le_trans h ?_⟩
  have e : x.noted.filter (fun m => decide (D ≤ m)) = (x.noted.filter (fun m => decide (n ≤ m))).filter (fun m => decide (D ≤ m)) := by
    rw [List.filter_filter]
    apply List.filter_congr
    intro m hmm
    by_cases hd : D ≤ m
    · have := hm m (List.mem_filter.2 ⟨hmm, by simpa using hd⟩)
      simp [hd, this]
    · simp [hd]
  rw [e]
  exact List.length_filter_le _ _

theorem agreed_eq (x : XWr) (st : List Msg) (h2 : x.noted = notedL st) (base len : Nat) (hf : fourOf st (base : Int) = true) (hB : ∀ m ∈ st, m.scl ≤ (base : Int) + (len : Int)) : x.agreed = (durUp st base (len + 1) : Int) := by
  obtain ⟨d1, d2, d3, d4⟩ := durUp_spec st base len hf
  obtain ⟨a1, a2⟩ := agreed_spec x
  generalize hD : durUp st base (len + 1) = D at *
  have le1 : (D : Int) ≤ x.agreed := by
    by_cases h0 : D = 0
    · subst h0
      rcases a1 with h | h <;> omega
    · rw [four_reaching x st h2 _ (by omega)] at d3
      obtain ⟨n, hn, hd, h4⟩ := reach_down x (D : Int) (by simpa using d3)
      have := a2 n hn h4
      omega
  have le2 : x.agreed ≤ (D : Int) := by
    rcases a1 with h | ⟨hm, h4, hp⟩
    · omega
    · have hA : x.agreed ≤ (base : Int) + (len : Int) := by
        rw [h2] at hm
        unfold notedL at hm
        obtain ⟨s, _, hs⟩ := List.mem_map.1 hm
        rw [← hs]
        exact notedN_le st _ _ (by omega) hB
      by_cases hb : x.agreed < (base : Int)
      · omega
      · have h5 := d4 x.agreed.toNat (by omega) (by omega) (by
          rw [show ((x.agreed.toNat : Nat) : Int) = x.agreed from by omega, four_reaching x st h2 _ (by omega)]
          simpa using h4)
        omega
  omega
end Go.Proofs.Ytfpbkghcjaonlaa.Sim

/-
  The simulation: MStatus.
-/
namespace Go.Proofs.Ytfpbkghcjaonlaa.Sim

theorem stands_over {p : RPen} (h : p.over = true) : p.stands = ⟨p.a0, p.a1, p.a2, p.a3⟩ := by unfold RPen.stands; rw [h]; rfl
theorem stands_few {p : RPen} (h : p.over = false) (h4 : p.fenced.length < 4) : p.stands = ⟨1, 0, 0, 0⟩ := by unfold RPen.stands; rw [h]; simp [h4]
theorem stands_cut {p : RPen} (h : p.over = false) (h4 : 4 ≤ p.fenced.length) (hf : fourOf p.status (baseOf p.fenced : Int) = false) : p.stands = ⟨2, (baseOf p.fenced : Int), (baseOf p.fenced : Int) + (p.values.length : Int), 0⟩ := by
  unfold RPen.stands; rw [h, hf]; simp [show ¬ p.fenced.length < 4 by omega]
theorem stands_open {p : RPen} (h : p.over = false) (h4 : 4 ≤ p.fenced.length) (hf : fourOf p.status (baseOf p.fenced : Int) = true) : p.stands = ⟨3, (baseOf p.fenced : Int), (baseOf p.fenced : Int) + (p.values.length : Int), (durUp p.status (baseOf p.fenced) (p.values.length + 1) : Int)⟩ := by
  unfold RPen.stands; rw [h, hf]; simp [show ¬ p.fenced.length < 4 by omega]

theorem wr_ext {a b : XWr} (h0 : a.number = b.number) (h1 : a.phase = b.phase) (h2 : a.base = b.base) (h3 : a.next = b.next) (h4 : a.dur = b.dur) (h5 : a.notes = b.notes) (h6 : a.cuts = b.cuts) (h7 : a.values = b.values) (h8 : a.heard = b.heard) (h9 : a.noted = b.noted) : a = b := by
  cases a; cases b; simp at *; exact ⟨h0, h1, h2, h3, h4, h5, h6, h7, h8, h9⟩

/-- What phase a writer is at. -/
theorem PenInv.cases {pens : List RPen} {wi n : Int} {p : RPen} (h : PenInv pens wi n p) :
    (p.over = true ∧ p.stands.phase = 4) ∨ (p.over = false ∧ p.fenced.length < 4 ∧ p.stands = ⟨1, 0, 0, 0⟩) ∨
    (p.over = false ∧ p.fenced.length = 4 ∧ fourOf p.status (baseOf p.fenced : Int) = false ∧ p.stands = ⟨2, (baseOf p.fenced : Int), (baseOf p.fenced : Int) + (p.values.length : Int), 0⟩) ∨
    (p.over = false ∧ p.fenced.length = 4 ∧ fourOf p.status (baseOf p.fenced : Int) = true ∧ p.stands = ⟨3, (baseOf p.fenced : Int), (baseOf p.fenced : Int) + (p.values.length : Int), (durUp p.status (baseOf p.fenced) (p.values.length + 1) : Int)⟩) := by
  have hf := h.f4
  cases ho : p.over with
  | true => exact .inl ⟨rfl, by rw [stands_over ho]; exact (h.ov ho).1⟩
  | false =>
    by_cases h4 : p.fenced.length < 4
    · exact .inr (.inl ⟨rfl, h4, stands_few ho h4⟩)
    · cases hs : fourOf p.status (baseOf p.fenced : Int) with
      | false => exact .inr (.inr (.inl ⟨rfl, by omega, rfl, stands_cut ho (by omega) hs⟩))
      | true => exact .inr (.inr (.inr ⟨rfl, by omega, rfl, stands_open ho (by omega) hs⟩))

theorem ended_over (p : RPen) : p.ended.over = true := by
  unfold RPen.ended
  cases h : p.over with
  | true => simp [h]
  | false => simp
theorem ended_same (p : RPen) : p.ended.fenced = p.fenced ∧ p.ended.status = p.status ∧ p.ended.values = p.values := by
  unfold RPen.ended; split <;> exact ⟨rfl, rfl, rfl⟩
theorem ended_a (p : RPen) (h : p.over = true → p.a0 = 4) : p.ended.a0 = 4 ∧ p.ended.a1 = p.stands.base ∧ p.ended.a2 = p.stands.next ∧ p.ended.a3 = p.stands.dur := by
  unfold RPen.ended
  cases ho : p.over with
  | true => rw [stands_over ho]; simp [h ho]
  | false => simp
theorem xpen_stop (n : Int) (p : RPen) (h : p.over = true → p.a0 = 4) : (xpen n p).stop = xpen n p.ended := by
  have ho := ended_over p
  obtain ⟨s1, s2, s3⟩ := ended_same p
  obtain ⟨a0, a1, a2, a3⟩ := ended_a p h
  have hs := stands_over ho
  rw [a0, a1, a2, a3] at hs
  unfold xpen XWr.stop
  rw [hs]
  simp only [ho, s2, true_or, if_true]
/-- How great base and durable are. -/
theorem PenInv.bounds {pens : List RPen} {wi n : Int} {p : RPen} (h : PenInv pens wi n p) : 0 ≤ p.stands.base ∧ p.stands.base ≤ 40 ∧ 0 ≤ p.stands.dur ∧ p.stands.dur ≤ 40 ∧ 0 ≤ p.stands.next := by
  have h40 := h.n40
  cases ho : p.over with
  | true => rw [stands_over ho]; exact (h.ov ho).2
  | false =>
    by_cases h4 : p.fenced.length < 4
    · rw [stands_few ho h4]; exact ⟨by decide, by decide, by decide, by decide, by decide⟩
    · cases hs : fourOf p.status (baseOf p.fenced : Int) with
      | false => rw [stands_cut ho (by omega) hs]; simp only; omega
      | true =>
        rw [stands_open ho (by omega) hs]
        have := (durUp_spec p.status (baseOf p.fenced) p.values.length hs).2.1
        simp only; omega
theorem PenInv.ended {pens : List RPen} {wi n : Int} {p : RPen} (h : PenInv pens wi n p) : PenInv pens wi n p.ended := by
  obtain ⟨s1, s2, s3⟩ := ended_same p
  obtain ⟨a0, a1, a2, a3⟩ := ended_a p (fun ho => (h.ov ho).1)
  refine ⟨by rw [s1]; exact h.f4, by rw [s1]; exact h.fm, by rw [s1, s2, s3]; exact h.few, by rw [s1, s2, s3]; exact h.sm, fun _ => ⟨a0, by rw [a1, a2, a3]; exact h.bounds⟩, by rw [s1, s3]; exact h.n40, by rw [s1, s2, s3]; exact h.shut, by rw [s1, s2, s3]; exact h.win, by rw [s1]; exact h.srt, by rw [s1]; exact h.len, by rw [s1]; exact h.pos⟩

/-- MStatus arrives at a writer that has decided. -/
theorem xpen_status {pens : List RPen} {wi n : Int} {p : RPen} (h : PenInv pens wi n p) (ho : p.over = false) (h4 : p.fenced.length = 4) (m : Msg) (hs0 : 0 ≤ m.scl) (hs1 : m.scl ≤ (baseOf p.fenced : Int) + (p.values.length : Int)) (hf0 : 0 ≤ m.frm) (hf6 : m.frm < 6) (hwi : 0 ≤ wi) :
    (xpen n p).hearStatus m = xpen n { p with status := p.status ++ [m] } ∧ PenInv pens wi n { p with status := p.status ++ [m] } := by
  have hB : ∀ q ∈ p.status ++ [m], q.scl ≤ (baseOf p.fenced : Int) + (p.values.length : Int) := fun q hq => by
    rcases List.mem_append.1 hq with h1 | h1
    · exact (h.sm q h1).2.1
    · rw [List.mem_singleton.1 h1]; exact hs1
  constructor
  · cases hf : fourOf p.status (baseOf p.fenced : Int) with
    | true =>
      have hf2 := fourOf_mono p.status m _ hf
      have st1 := stands_open ho (by omega) hf
      have st2 := stands_open (p := { p with status := p.status ++ [m] }) ho (show 4 ≤ p.fenced.length by omega) hf2
      unfold XWr.hearStatus
      rw [if_pos (by right; unfold xpen; rw [st1])]
      have e1 : ((xpen n p).noteS m).phase = 3 := by unfold XWr.noteS xpen; rw [st1]
      have e2 : ((xpen n p).noteS m).opens = (xpen n p).noteS m := by unfold XWr.opens; rw [if_neg (by rw [e1]; simp)]
      have hn : ((xpen n p).noteS m).noted = notedL (p.status ++ [m]) := by unfold XWr.noteS xpen; simp only; rw [notedL_snoc _ _ hf0 hf6]
      have ha := agreed_eq ((xpen n p).noteS m) _ hn (baseOf p.fenced) p.values.length hf2 hB
      rw [e2]
      unfold XWr.durs
      rw [if_pos e1]
      refine wr_ext rfl ?_ ?_ ?_ ?_ ?_ ?_ ?_ ?_ ?_
      · simp only [e1]; unfold xpen; rw [st2]
      · unfold xpen XWr.noteS; rw [st1, st2]
      · unfold xpen XWr.noteS; rw [st1, st2]
      · simp only [ha]; unfold xpen; rw [st2]
      · rfl
      · rfl
      · rfl
      · unfold xpen XWr.noteS; simp only; rw [heardL_snoc _ _ hf0 hf6]
      · exact hn
    | false =>
      have st1 := stands_cut ho (by omega) hf
      unfold XWr.hearStatus
      rw [if_pos (by left; unfold xpen; rw [st1])]
      have e1 : ((xpen n p).noteS m).phase = 2 := by unfold XWr.noteS xpen; rw [st1]
      have hb : ((xpen n p).noteS m).base = (baseOf p.fenced : Int) := by unfold XWr.noteS xpen; rw [st1]
      have hn : ((xpen n p).noteS m).noted = notedL (p.status ++ [m]) := by unfold XWr.noteS xpen; simp only; rw [notedL_snoc _ _ hf0 hf6]
      have hh : ((xpen n p).noteS m).heard = heardL (p.status ++ [m]) := by unfold XWr.noteS xpen; simp only; rw [heardL_snoc _ _ hf0 hf6]
      have hr := readyN_eq _ _ hh hn
      rw [hb] at hr
      cases hf2 : fourOf (p.status ++ [m]) (baseOf p.fenced : Int) with
      | false =>
        have st2 := stands_cut (p := { p with status := p.status ++ [m] }) ho (show 4 ≤ p.fenced.length by omega) hf2
        have hr4 : ¬ 4 ≤ ((xpen n p).noteS m).readyN := by rw [hr]; unfold fourOf at hf2; simpa using hf2
        have e2 : ((xpen n p).noteS m).opens = (xpen n p).noteS m := by unfold XWr.opens; rw [if_neg (fun h => hr4 h.2)]
        rw [e2]
        unfold XWr.durs
        rw [if_neg (by rw [e1]; decide)]
        refine wr_ext rfl ?_ ?_ ?_ ?_ rfl rfl rfl hh hn
        · rw [e1]; unfold xpen; rw [st2]
        · unfold xpen XWr.noteS; rw [st1, st2]
        · unfold xpen XWr.noteS; rw [st1, st2]
        · unfold xpen XWr.noteS; rw [st1, st2]
      | true =>
        have st2 := stands_open (p := { p with status := p.status ++ [m] }) ho (show 4 ≤ p.fenced.length by omega) hf2
        have hr4 : 4 ≤ ((xpen n p).noteS m).readyN := by rw [hr]; unfold fourOf at hf2; simpa using hf2
        have e2 : ((xpen n p).noteS m).opens = { (xpen n p).noteS m with phase := 3 } := by unfold XWr.opens; rw [if_pos ⟨e1, hr4⟩]
        have ha := agreed_eq { (xpen n p).noteS m with phase := 3 } _ hn (baseOf p.fenced) p.values.length hf2 hB
        rw [e2]
        unfold XWr.durs
        rw [if_pos rfl]
        refine wr_ext rfl ?_ ?_ ?_ ?_ rfl rfl rfl hh hn
        · unfold xpen; rw [st2]
        · unfold xpen XWr.noteS; rw [st1, st2]
        · unfold xpen XWr.noteS; rw [st1, st2]
        · rw [ha]; unfold xpen; rw [st2]
  · refine ⟨h.f4, h.fm, fun h' => by simp only at h'; omega, fun q hq => ?_, h.ov, h.n40, fun hf => ?_, fun _ hf => ?_, h.srt, h.len, h.pos⟩
    · rcases List.mem_append.1 hq with h1 | h1
      · exact h.sm q h1
      · rw [List.mem_singleton.1 h1]; exact ⟨hs0, hs1, hf0, hf6⟩
    · refine h.shut ?_
      cases hf2 : fourOf p.status (baseOf p.fenced : Int) with
      | false => rfl
      | true => rw [fourOf_mono p.status m _ hf2] at hf; simp at hf
    · have hn2 := durUp_spec (p.status ++ [m]) (baseOf p.fenced) p.values.length hf
      simp only
      cases hf2 : fourOf p.status (baseOf p.fenced : Int) with
      | false =>
        have hv := h.shut hf2
        have h1 := hn2.1
        rw [hv] at h1 ⊢
        simp only [List.length_nil] at h1 ⊢
        omega
      | true =>
        have hw := h.win (by omega) hf2
        obtain ⟨d1, d2, d3, d4⟩ := durUp_spec p.status (baseOf p.fenced) p.values.length hf2
        have := hn2.2.2.2 _ d1 d2 (fourOf_mono _ m _ d3)
        omega
end Go.Proofs.Ytfpbkghcjaonlaa.Sim

/-
  The simulation: MFenced, Append, what is due.
-/
namespace Go.Proofs.Ytfpbkghcjaonlaa.Sim

theorem fmap_congr {A B : Type} {f g : A → Option B} : ∀ {l : List A}, (∀ a ∈ l, f a = g a) → l.filterMap f = l.filterMap g
  | [], _ => rfl
  | a :: r, h => by
    rw [List.filterMap_cons, List.filterMap_cons, h a List.mem_cons_self, fmap_congr (fun b hb => h b (List.mem_cons_of_mem _ hb))]

theorem hasNote_eq {n : Int} {p : RPen} (ho : p.over = false) (h4 : p.fenced.length < 4) (s : Int) : (xpen n p).hasNote s = heardIn p.fenced s := by
  unfold XWr.hasNote xpen heardIn
  simp only [ho, show ¬ 4 ≤ p.fenced.length by omega, Bool.false_eq_true, or_self, if_false]
  rw [List.any_map]; rfl
theorem four_nil (n : Int) : fourOf [] n = false := by
  unfold fourOf reachUp
  rw [List.filter_eq_nil_iff.2 (by intro s _; simp [reach, heardIn])]; rfl

theorem top_max {l : List (Int × Int)} (hs : l.Pairwise (fun a b => a.1 < b.1)) : ∀ c ∈ l, c.1 ≤ topOf l := by
  intro c hc
  obtain ⟨l', z, rfl⟩ : ∃ l' z, l = l' ++ [z] := by
    cases h : l.reverse with
    | nil => simp at h; subst h; simp at hc
    | cons z t => exact ⟨t.reverse, z, by rw [← List.reverse_reverse l, h]; simp⟩
  rw [topOf_snoc]
  rcases List.mem_append.1 hc with h1 | h1
  · have := (List.pairwise_append.1 hs).2.2 c h1 z (by simp)
    omega
  · rw [List.mem_singleton.1 h1]; exact Int.le_refl _

/-- A list of cuts is in order. -/
theorem CutsInv.sorted {r : RVol} (h : Inv r) {l : List (Int × Int)} (c : CutsInv r.pens l) : l.Pairwise (fun a b => a.1 < b.1) ∧ ((l.length : Int) ≤ topOf l) ∧ (∀ c ∈ l, 1 ≤ c.1) := by
  rcases c with rfl | ⟨n, p, ⟨i, hn, hi, h4⟩, rfl⟩
  · exact ⟨List.Pairwise.nil, by decide, fun c hc => by simp at hc⟩
  · have hp := h.pens i p hi
    rw [topOf_dec, hn]
    exact ⟨hp.srt h4, hp.len h4, hp.pos h4⟩
theorem CutsInv.len9 {r : RVol} (h : Inv r) {l : List (Int × Int)} (c : CutsInv r.pens l) : l.length ≤ 9 := by
  have h2 := (c.sorted h).2.1
  by_cases h0 : topOf l = 0
  · rw [c.zero h0]; simp
  · obtain ⟨p, d, _⟩ := c.dec h0
    have := d.le
    have := h.p9
    omega

theorem best_mem (f : List Msg) : f.foldl bestStep [] = [] ∨ ∃ m ∈ f, f.foldl bestStep [] = m.cuts := by
  have key : ∀ (f : List Msg) (b : List (Int × Int)), f.foldl bestStep b = b ∨ ∃ m ∈ f, f.foldl bestStep b = m.cuts := by
    intro f
    induction f with
    | nil => intro b; exact .inl rfl
    | cons a r ih =>
      intro b
      rw [List.foldl_cons]
      rcases ih (bestStep b a) with h | ⟨m, hm, h⟩
      · rw [h]; unfold bestStep
        split
        · exact .inr ⟨a, List.mem_cons_self, rfl⟩
        · exact .inl rfl
      · exact .inr ⟨m, List.mem_cons_of_mem _ hm, h⟩
  exact key f []

/-- MFenced arrives at a writer that is fencing. -/
theorem xpen_fenced {r : RVol} (h : Inv r) {i : Nat} {p : RPen} (hi : r.pens[i]? = some p) (ho : p.over = false) (h4 : p.fenced.length < 4) (m : Msg) (hnew : heardIn p.fenced m.frm = false) (hc : CutsInv r.pens m.cuts) (hm : m.marks.length ≤ 40) (hf0 : 0 ≤ m.frm) (hf6 : m.frm < 6) (ht : topOf m.cuts ≤ (i : Int) + 1) :
    (xpen ((i : Int) + 1) p).hearFenced m = (xpen ((i : Int) + 1) { p with fenced := p.fenced ++ [m] }, if p.fenced.length + 1 = 4 then (List.range 6).map (cutMsg ((i : Int) + 1) (decCuts (p.fenced ++ [m]) ((i : Int) + 1))) else []) ∧
    PenInv r.pens r.wi ((i : Int) + 1) { p with fenced := p.fenced ++ [m] } := by
  have hp := h.pens i p hi
  obtain ⟨hst, hvl⟩ := hp.few h4
  have st1 := stands_few ho h4
  have hfm : ∀ q ∈ p.fenced ++ [m], CutsInv r.pens q.cuts ∧ q.marks.length ≤ 40 ∧ 0 ≤ q.frm ∧ q.frm < 6 ∧ topOf q.cuts ≤ (i : Int) + 1 := fun q hq => by
    rcases List.mem_append.1 hq with h1 | h1
    · exact hp.fm q h1
    · rw [List.mem_singleton.1 h1]; exact ⟨hc, hm, hf0, hf6, ht⟩
  have hph : (xpen ((i : Int) + 1) p).phase = 1 := by unfold xpen; rw [st1]
  have hnt : (xpen ((i : Int) + 1) p).notes = p.fenced.map note3 := by
    unfold xpen; simp only [ho, show ¬ 4 ≤ p.fenced.length by omega, Bool.false_eq_true, or_self, if_false]
  constructor
  · unfold XWr.hearFenced
    rw [if_neg (by rw [hph, hasNote_eq ho h4, hnew]; simp)]
    have hl : ((xpen ((i : Int) + 1) p).notes ++ [(m.frm, m.cuts, m.marks)]) = (p.fenced ++ [m]).map note3 := by rw [hnt]; simp [note3]
    simp only [hl]
    by_cases h3 : p.fenced.length + 1 = 4
    · rw [if_neg (by simp; omega), if_pos h3]
      have hnb := (newest_best (pens := r.pens) (p.fenced ++ [m]) (fun q hq => (hfm q hq).1)).1
      have hbu : bestUp (p.fenced ++ [m]) 4 = (p.fenced ++ [m]).foldl bestStep [] := bestUp_all (by simp; omega)
      have hbe := base_eq (f := p.fenced ++ [m]) (by simp; omega)
      have st2 := stands_cut (p := { p with fenced := p.fenced ++ [m] }) ho (by simp; omega) (by simp only [hst]; exact four_nil _)
      have hX : XWr.decides { xpen ((i : Int) + 1) p with notes := (p.fenced ++ [m]).map note3 } = xpen ((i : Int) + 1) { p with fenced := p.fenced ++ [m] } := by
        unfold XWr.decides
        simp only [hnb, ← hbu, hbe]
        refine wr_ext rfl ?_ ?_ ?_ ?_ ?_ ?_ ?_ rfl rfl
        · unfold xpen; rw [st2]
        · unfold xpen; rw [st2]
        · unfold xpen; rw [st2]; simp [hvl]
        · unfold xpen; rw [st1, st2]
        · unfold xpen; simp only; rw [if_pos (by right; simp; omega)]
        · unfold xpen decCuts; simp only; rw [if_neg (by simp [ho]; omega)]
        · rfl
      rw [hX]
      refine Prod.ext rfl ?_
      simp only
      unfold XWr.due
      rw [← List.filterMap_eq_map]
      apply fmap_congr
      intro s hs
      have hs6 : s < 6 := by simpa using hs
      unfold XWr.dueTo
      have hph2 : (xpen ((i : Int) + 1) { p with fenced := p.fenced ++ [m] }).phase = 2 := by unfold xpen; rw [st2]
      have hhd : (xpen ((i : Int) + 1) { p with fenced := p.fenced ++ [m] }).heard.getD s false = false := by
        unfold xpen; simp only; rw [heardL_get _ s hs6, hst]; rfl
      rw [hph2, if_neg (by decide), if_pos (by left; rfl), hhd]
      simp only [Bool.false_eq_true, if_false, Function.comp]
      unfold cutMsg xpen
      simp only [ho, Bool.false_eq_true, false_or]
      rw [if_neg (by simp; omega)]
    · rw [if_pos (by simp; omega), if_neg h3]
      refine Prod.ext ?_ rfl
      simp only
      have st2 := stands_few (p := { p with fenced := p.fenced ++ [m] }) ho (by simp; omega)
      refine wr_ext rfl ?_ ?_ ?_ ?_ ?_ ?_ rfl rfl rfl
      · unfold xpen; rw [st1, st2]
      · unfold xpen; rw [st1, st2]
      · unfold xpen; rw [st1, st2]
      · unfold xpen; rw [st1, st2]
      · unfold xpen; simp only; rw [if_neg (by simp [ho]; omega)]
      · unfold xpen; simp only; rw [if_pos (.inr h4), if_pos (by right; simp; omega)]
  · have hbest : ∀ hl : 4 ≤ (p.fenced ++ [m]).length, (decCuts (p.fenced ++ [m]) ((i : Int) + 1)).Pairwise (fun a b => a.1 < b.1) ∧ ((decCuts (p.fenced ++ [m]) ((i : Int) + 1)).length : Int) ≤ (i : Int) + 1 ∧ ∀ c ∈ decCuts (p.fenced ++ [m]) ((i : Int) + 1), 1 ≤ c.1 := by
      intro hl
      have hbu : bestUp (p.fenced ++ [m]) 4 = (p.fenced ++ [m]).foldl bestStep [] := bestUp_all (by simp; omega)
      have hci := (newest_best (pens := r.pens) (p.fenced ++ [m]) (fun q hq => (hfm q hq).1)).2
      have htop : topOf ((p.fenced ++ [m]).foldl bestStep []) ≤ (i : Int) := by
        rcases best_mem (p.fenced ++ [m]) with h0 | ⟨q, hq, h0⟩
        · rw [h0]; simp [topOf]
        · rw [h0] at hci ⊢
          have h1 := (hfm q hq).2.2.2.2
          by_cases he : topOf q.cuts = (i : Int) + 1
          · exfalso
            obtain ⟨p', ⟨j, hj, hj2, hj4⟩, _⟩ := hci.dec (by omega)
            have : j = i := by omega
            subst this
            rw [hi] at hj2
            have := Option.some.inj hj2
            subst this
            omega
          · omega
      rw [← hbu] at hci htop
      obtain ⟨s1, s2, s3⟩ := hci.sorted h
      unfold decCuts
      refine ⟨List.pairwise_append.2 ⟨s1, by simp, fun a ha b hb => ?_⟩, ?_, fun c hc => ?_⟩
      · have := top_max s1 a ha
        rw [List.mem_singleton.1 hb]
        show a.1 < (i : Int) + 1
        omega
      · simp only [List.length_append, List.length_singleton]; omega
      · rcases List.mem_append.1 hc with h1 | h1
        · exact s3 c h1
        · rw [List.mem_singleton.1 h1]; show (1 : Int) ≤ (i : Int) + 1; omega
    have hb40 := baseOf_le40 (f := p.fenced ++ [m]) (fun q hq => (hfm q hq).2.1)
    refine ⟨by simp; omega, hfm, fun _ => ⟨hst, hvl⟩, fun q hq => by rw [show ({ p with fenced := p.fenced ++ [m] } : RPen).status = p.status from rfl, hst] at hq; simp at hq, hp.ov, by simp only [hvl]; simpa using hb40, fun _ => hvl, fun _ hf => by simp only [hst] at hf; rw [four_nil] at hf; simp at hf, fun hl => (hbest hl).1, fun hl => (hbest hl).2.1, fun hl => (hbest hl).2.2⟩

/-- A record is appended. -/
theorem xpen_append {pens : List RPen} {wi n : Int} {p : RPen} (h : PenInv pens wi n p) (ho : p.over = false) (h4 : p.fenced.length = 4) (hf : fourOf p.status (baseOf p.fenced : Int) = true) (v : Int) (hn : ¬ (baseOf p.fenced : Int) + (p.values.length : Int) = 40) (hw : ¬ (baseOf p.fenced : Int) + (p.values.length : Int) = (durUp p.status (baseOf p.fenced) (p.values.length + 1) : Int) + wi) :
    (xpen n p).append v wi = (xpen n { p with values := p.values ++ [v] }, (baseOf p.fenced : Int) + (p.values.length : Int) + 1, 0) ∧ PenInv pens wi n { p with values := p.values ++ [v] } ∧
    (xpen n { p with values := p.values ++ [v] }).writes ((baseOf p.fenced : Int) + (p.values.length : Int) + 1) = (List.range 6).map (writeMsg n ((baseOf p.fenced : Int) + (p.values.length : Int) + 1) v) := by
  have h40 := h.n40
  have hwi := h.win (by omega) hf
  have st1 := stands_open ho (by omega) hf
  have hd : durUp p.status (baseOf p.fenced) (p.values.length + 1 + 1) = durUp p.status (baseOf p.fenced) (p.values.length + 1) := by
    rw [show durUp p.status (baseOf p.fenced) (p.values.length + 1 + 1) = if fourOf p.status ((baseOf p.fenced + (p.values.length + 1) : Nat) : Int) then baseOf p.fenced + (p.values.length + 1) else durUp p.status (baseOf p.fenced) (p.values.length + 1) from rfl, if_neg]
    intro h5
    unfold fourOf reachUp at h5
    rw [List.filter_eq_nil_iff.2 (by
      intro s _
      unfold reach
      have := notedN_le p.status (s : Int) ((baseOf p.fenced : Int) + (p.values.length : Int)) (by omega) (fun m hm => (h.sm m hm).2.1)
      simp
      intro _
      omega)] at h5
    simp at h5
  have st2 := stands_open (p := { p with values := p.values ++ [v] }) ho (show 4 ≤ p.fenced.length by omega) hf
  simp only [List.length_append, List.length_singleton, hd] at st2
  refine ⟨?_, ?_, ?_⟩
  · unfold XWr.append
    have e1 : (xpen n p).phase = 3 := by unfold xpen; rw [st1]
    have e2 : (xpen n p).next = (baseOf p.fenced : Int) + (p.values.length : Int) := by unfold xpen; rw [st1]
    have e3 : (xpen n p).dur = (durUp p.status (baseOf p.fenced) (p.values.length + 1) : Int) := by unfold xpen; rw [st1]
    rw [if_neg (by rw [e1]; decide), if_neg (by rw [e1]; simp), if_neg (by rw [e2]; omega), if_neg (by rw [e2, e3]; omega), e2]
    refine Prod.ext ?_ rfl
    simp only
    refine wr_ext rfl ?_ ?_ ?_ ?_ rfl rfl ?_ rfl rfl
    · unfold xpen; rw [st1, st2]
    · unfold xpen; rw [st1, st2]
    · unfold xpen; rw [st2]; simp only; omega
    · unfold xpen; rw [st1, st2]
    · unfold xpen; simp [ho]
  · refine ⟨h.f4, h.fm, fun h' => by simp only at h'; omega, fun q hq => ?_, h.ov, by simp; omega, fun hf' => by simp only at hf'; rw [hf] at hf'; simp at hf', fun _ _ => ?_, h.srt, h.len, h.pos⟩
    · have := h.sm q hq
      simp only [List.length_append, List.length_singleton]
      exact ⟨this.1, by omega, this.2.2⟩
    · simp only [List.length_append, List.length_singleton, hd]; omega
  · unfold XWr.writes
    rw [← List.filterMap_eq_map]
    apply fmap_congr
    intro s _
    have e1 : (xpen n { p with values := p.values ++ [v] }).base = (baseOf p.fenced : Int) := by unfold xpen; rw [st2]
    have e2 : (xpen n { p with values := p.values ++ [v] }).values = p.values ++ [v] := by unfold xpen; simp [ho]
    have e3 : (xpen n { p with values := p.values ++ [v] }).number = n := rfl
    unfold XWr.write
    rw [e1, e2, e3, if_neg (by omega), if_neg (by simp; omega)]
    rw [show ((baseOf p.fenced : Int) + (p.values.length : Int) + 1 - (baseOf p.fenced : Int) - 1).toNat = p.values.length from by omega]
    simp [writeMsg]
theorem xpen_append_no {pens : List RPen} {wi n : Int} {p : RPen} (h : PenInv pens wi n p) (v : Int) :
    (p.stands.phase = 4 → (xpen n p).append v wi = (xpen n p, 0, 4)) ∧ (p.stands.phase ≠ 4 → p.stands.phase ≠ 3 → (xpen n p).append v wi = (xpen n p, 0, 5)) ∧
    (p.stands.phase = 3 → p.stands.next = 40 → (xpen n p).append v wi = (xpen n p, 0, 7)) ∧ (p.stands.phase = 3 → p.stands.next ≠ 40 → p.stands.next = p.stands.dur + wi → (xpen n p).append v wi = (xpen n p, 0, 6)) := by
  have hph : (xpen n p).phase = p.stands.phase := rfl
  have hnx : (xpen n p).next = p.stands.next := rfl
  have hdr : (xpen n p).dur = p.stands.dur := rfl
  unfold XWr.append
  rw [hph, hnx, hdr]
  refine ⟨fun h1 => by rw [if_pos h1], fun h1 h2 => by rw [if_neg h1, if_pos h2], fun h1 h2 => by rw [if_neg (by rw [h1]; decide), if_neg (by rw [h1]; simp), if_pos (by omega)], fun h1 h2 h3 => ?_⟩
  have h40 : p.stands.next ≤ 40 := by
    have := h.n40
    rcases h.cases with ⟨_, h5⟩ | ⟨_, _, h5⟩ | ⟨_, _, _, h5⟩ | ⟨_, _, _, h5⟩
    · rw [h1] at h5; simp at h5
    · rw [h5] at h1; simp at h1
    · rw [h5]; simp only; omega
    · rw [h5]; simp only; omega
  rw [if_neg (by rw [h1]; decide), if_neg (by rw [h1]; simp), if_neg (by omega), if_pos (by omega)]

/-- What is due. -/
theorem xpen_due {pens : List RPen} {wi n : Int} {p : RPen} (h : PenInv pens wi n p) (hp : p.stands.phase ≠ 4) (s : Nat) (hs : s < 6) : (xpen n p).dueTo s = resMsg p p.stands n s := by
  have hph : (xpen n p).phase = p.stands.phase := rfl
  unfold XWr.dueTo resMsg
  rw [hph]
  rcases h.cases with ⟨_, h5⟩ | ⟨ho, h4, h5⟩ | ⟨ho, h4, hf, h5⟩ | ⟨ho, h4, hf, h5⟩
  · exact absurd h5 hp
  · rw [h5]
    simp only [if_true]
    rw [hasNote_eq ho h4]; rfl
  all_goals
    have hb : (xpen n p).base = p.stands.base := rfl
    have hv : (xpen n p).values = p.values := by unfold xpen; simp [ho]
    have hc : (xpen n p).cuts = decCuts p.fenced n := by unfold xpen; simp only [ho, Bool.false_eq_true, false_or]; rw [if_neg (by omega)]
    have hh : (xpen n p).heard.getD s false = heardIn p.status (s : Int) := heardL_get p.status s hs
    have hn : (xpen n p).noted.getD s 0 = notedN p.status (s : Int) := notedL_get p.status s hs
    rw [hh, hn, hc]
    have e0 : (xpen n p).number = n := rfl
    cases hhd : heardIn p.status (s : Int) with
    | false => rw [h5]; simp [cutMsg, e0]
    | true =>
      rw [h5]
      unfold XWr.write
      rw [hb, hv, e0, h5]
      simp only [Bool.true_eq_false, if_false, if_true]
      by_cases c1 : notedN p.status (s : Int) + 1 - (baseOf p.fenced : Int) - 1 < 0
      · simp [c1]; omega
      · by_cases c2 : (p.values.length : Int) ≤ notedN p.status (s : Int) + 1 - (baseOf p.fenced : Int) - 1
        · simp [c1, c2]; omega
        · have e9 : notedN p.status (s : Int) + 1 - (baseOf p.fenced : Int) - 1 = notedN p.status (s : Int) - (baseOf p.fenced : Int) := by omega
          rw [if_neg c1, if_neg c2, if_pos (show (baseOf p.fenced : Int) < notedN p.status (s : Int) + 1 ∧ notedN p.status (s : Int) + 1 ≤ (baseOf p.fenced : Int) + (p.values.length : Int) by omega), e9]
          simp [writeMsg]
end Go.Proofs.Ytfpbkghcjaonlaa.Sim
