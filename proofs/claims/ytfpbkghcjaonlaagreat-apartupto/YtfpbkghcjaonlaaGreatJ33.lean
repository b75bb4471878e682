import Derived.Test.YtfpbkghcjaonlaaGreatJ21
import Derived.Test.YtfpbkghcjaonlaaGreatJ32
/-
  sixfoldlaw: stores.
-/
namespace Go.Proofs.YtfpbkghcjaonlaaGreat
open Go.RowKit

set_option maxRecDepth 2000 in
set_option maxHeartbeats 4000000 in
theorem lawStores_sync {T : Type} {R : T → (Nat → Nat) → World → Prop} {t t1 t2 : T} {k : Nat → Nat} {w wr : World} {b px py nC nR nI : Nat} {X : List (Nat × Nat × List Value)} (hF : Fam R) (A B : Int) (err : Int)
    (HX : Step R 36 #[.pointer (some ⟨px, 0, none⟩), .int .i64 A] (.int .i64 err) t t1)
    (HY : Step R 37 #[.pointer (some ⟨py, 0, none⟩), .int .i64 A] (.int .i64 err) t1 t2)
    (h : LSt R t k w wr b px py nC nR nI X) :
    Calls Tryz.prog 17 #[.pointer (some ⟨b, 0, none⟩), .agg #[.int .i64 4, .int .i64 A, .int .i64 B]] wr fun e w' => e = .returned (.bool true) ∧ LSt R t2 k w w' b px py nC nR nI X := by
  have h0 := h.alloc hF 33 [.int .i64 4, .int .i64 A, .int .i64 B]
  obtain ⟨z0, z1, hbl⟩ := h.cells
  have hbg : ¬ b = wr.heap.size := by omega
  have H0 := hide h0
  have HF := hide hF
  have HX' := hide HX
  have HY' := hide HY
  clear h h0 HX HY hF
  have H1 := hide ((H0.out.drew HF.out).call HF.out HX'.out)
  have HA := hide (H0.out.drew HF.out).acts
  go_enter Tryz.func17, Tryz.ntmps17
  go_wp2_with fail
  go_region_held3 (fun W => W.cell? ⟨b, 0, none⟩ = some (.pointer (some ⟨px, 0, none⟩)) ∧ W.cell? ⟨wr.heap.size, 1, none⟩ = some (.int .i64 A) ∧ W.cell? ⟨wr.heap.size, 2, none⟩ = some (.int .i64 B)) (first | exact ⟨HA.out.1, HA.out.2.2.2.2.1, HA.out.2.2.2.2.2.1⟩ | exact HSx)
    (first | (go_at_call 36; refine H1.out.mono ?_; rintro e1 w1 ⟨rfl, h1⟩; have ha1 := h1.acts; have HSx := And.intro ha1.1 (And.intro ha1.2.2.2.2.1 ha1.2.2.2.2.2.1); have H1x := hide h1; clear h1 ha1))
  have HA1 := hide (H1x.out.drew HF.out).acts
  have H2 := hide ((H1x.out.drew HF.out).call HF.out HY'.out)
  obtain ⟨y0, y1, hbl1, g0, g1, g2, hgl⟩ := H1x.out.acts
  clear HSx z0 z1 hbl
  go_wp2_with fail
  go_region_held3 (fun W => W.cell? ⟨b, 1, none⟩ = some (.pointer (some ⟨py, 0, none⟩)) ∧ W.cell? ⟨wr.heap.size, 1, none⟩ = some (.int .i64 A) ∧ W.cell? ⟨wr.heap.size, 2, none⟩ = some (.int .i64 B)) (first | exact ⟨HA1.out.2.1, HA1.out.2.2.2.2.1, HA1.out.2.2.2.2.2.1⟩ | exact HSy)
    (first | (go_at_call 37; refine H2.out.mono ?_; rintro e2 w2 ⟨rfl, h2⟩; have ha2 := h2.acts; have HSy := And.intro ha2.2.1 (And.intro ha2.2.2.2.2.1 ha2.2.2.2.2.2.1); have H2x := hide h2; clear h2 ha2))
  clear HSy
  go_wp2_with fail
  go_ret
  exact ⟨by simp, H2x.out.drop⟩

set_option maxRecDepth 2000 in
set_option maxHeartbeats 4000000 in
theorem lawStores_gossip {T : Type} {R : T → (Nat → Nat) → World → Prop} {t t1 t2 : T} {k : Nat → Nat} {w wr : World} {b px py nC nR nI : Nat} {X : List (Nat × Nat × List Value)} (hF : Fam R) (A B : Int) (err : Int)
    (HX : Step R 38 #[.pointer (some ⟨px, 0, none⟩), .int .i64 A, .int .i64 B] (.int .i64 err) t t1)
    (HY : Step R 39 #[.pointer (some ⟨py, 0, none⟩), .int .i64 A, .int .i64 B] (.int .i64 err) t1 t2)
    (h : LSt R t k w wr b px py nC nR nI X) :
    Calls Tryz.prog 17 #[.pointer (some ⟨b, 0, none⟩), .agg #[.int .i64 5, .int .i64 A, .int .i64 B]] wr fun e w' => e = .returned (.bool true) ∧ LSt R t2 k w w' b px py nC nR nI X := by
  have h0 := h.alloc hF 33 [.int .i64 5, .int .i64 A, .int .i64 B]
  obtain ⟨z0, z1, hbl⟩ := h.cells
  have hbg : ¬ b = wr.heap.size := by omega
  have H0 := hide h0
  have HF := hide hF
  have HX' := hide HX
  have HY' := hide HY
  clear h h0 HX HY hF
  have H1 := hide ((H0.out.drew HF.out).call HF.out HX'.out)
  have HA := hide (H0.out.drew HF.out).acts
  go_enter Tryz.func17, Tryz.ntmps17
  go_wp2_with fail
  go_region_held3 (fun W => W.cell? ⟨b, 0, none⟩ = some (.pointer (some ⟨px, 0, none⟩)) ∧ W.cell? ⟨wr.heap.size, 1, none⟩ = some (.int .i64 A) ∧ W.cell? ⟨wr.heap.size, 2, none⟩ = some (.int .i64 B)) (first | exact ⟨HA.out.1, HA.out.2.2.2.2.1, HA.out.2.2.2.2.2.1⟩ | exact HSx)
    (first | (go_at_call 38; refine H1.out.mono ?_; rintro e1 w1 ⟨rfl, h1⟩; have ha1 := h1.acts; have HSx := And.intro ha1.1 (And.intro ha1.2.2.2.2.1 ha1.2.2.2.2.2.1); have H1x := hide h1; clear h1 ha1))
  have HA1 := hide (H1x.out.drew HF.out).acts
  have H2 := hide ((H1x.out.drew HF.out).call HF.out HY'.out)
  obtain ⟨y0, y1, hbl1, g0, g1, g2, hgl⟩ := H1x.out.acts
  clear HSx z0 z1 hbl
  go_wp2_with fail
  go_region_held3 (fun W => W.cell? ⟨b, 1, none⟩ = some (.pointer (some ⟨py, 0, none⟩)) ∧ W.cell? ⟨wr.heap.size, 1, none⟩ = some (.int .i64 A) ∧ W.cell? ⟨wr.heap.size, 2, none⟩ = some (.int .i64 B)) (first | exact ⟨HA1.out.2.1, HA1.out.2.2.2.2.1, HA1.out.2.2.2.2.2.1⟩ | exact HSy)
    (first | (go_at_call 39; refine H2.out.mono ?_; rintro e2 w2 ⟨rfl, h2⟩; have ha2 := h2.acts; have HSy := And.intro ha2.2.1 (And.intro ha2.2.2.2.2.1 ha2.2.2.2.2.2.1); have H2x := hide h2; clear h2 ha2))
  clear HSy
  go_wp2_with fail
  go_ret
  exact ⟨by simp, H2x.out.drop⟩

set_option maxRecDepth 2000 in
set_option maxHeartbeats 4000000 in
theorem lawStores_crash {T : Type} {R : T → (Nat → Nat) → World → Prop} {t t1 t2 : T} {k : Nat → Nat} {w wr : World} {b px py nC nR nI : Nat} {X : List (Nat × Nat × List Value)} (hF : Fam R) (A B : Int) (err : Int)
    (HX : Step R 40 #[.pointer (some ⟨px, 0, none⟩), .int .i64 A] (.int .i64 err) t t1)
    (HY : Step R 41 #[.pointer (some ⟨py, 0, none⟩), .int .i64 A] (.int .i64 err) t1 t2)
    (h : LSt R t k w wr b px py nC nR nI X) :
    Calls Tryz.prog 17 #[.pointer (some ⟨b, 0, none⟩), .agg #[.int .i64 6, .int .i64 A, .int .i64 B]] wr fun e w' => e = .returned (.bool true) ∧ LSt R t2 k w w' b px py nC nR nI X := by
  have h0 := h.alloc hF 33 [.int .i64 6, .int .i64 A, .int .i64 B]
  obtain ⟨z0, z1, hbl⟩ := h.cells
  have hbg : ¬ b = wr.heap.size := by omega
  have H0 := hide h0
  have HF := hide hF
  have HX' := hide HX
  have HY' := hide HY
  clear h h0 HX HY hF
  have H1 := hide ((H0.out.drew HF.out).call HF.out HX'.out)
  have HA := hide (H0.out.drew HF.out).acts
  go_enter Tryz.func17, Tryz.ntmps17
  go_wp2_with fail
  go_region_held3 (fun W => W.cell? ⟨b, 0, none⟩ = some (.pointer (some ⟨px, 0, none⟩)) ∧ W.cell? ⟨wr.heap.size, 1, none⟩ = some (.int .i64 A) ∧ W.cell? ⟨wr.heap.size, 2, none⟩ = some (.int .i64 B)) (first | exact ⟨HA.out.1, HA.out.2.2.2.2.1, HA.out.2.2.2.2.2.1⟩ | exact HSx)
    (first | (go_at_call 40; refine H1.out.mono ?_; rintro e1 w1 ⟨rfl, h1⟩; have ha1 := h1.acts; have HSx := And.intro ha1.1 (And.intro ha1.2.2.2.2.1 ha1.2.2.2.2.2.1); have H1x := hide h1; clear h1 ha1))
  have HA1 := hide (H1x.out.drew HF.out).acts
  have H2 := hide ((H1x.out.drew HF.out).call HF.out HY'.out)
  obtain ⟨y0, y1, hbl1, g0, g1, g2, hgl⟩ := H1x.out.acts
  clear HSx z0 z1 hbl
  go_wp2_with fail
  go_region_held3 (fun W => W.cell? ⟨b, 1, none⟩ = some (.pointer (some ⟨py, 0, none⟩)) ∧ W.cell? ⟨wr.heap.size, 1, none⟩ = some (.int .i64 A) ∧ W.cell? ⟨wr.heap.size, 2, none⟩ = some (.int .i64 B)) (first | exact ⟨HA1.out.2.1, HA1.out.2.2.2.2.1, HA1.out.2.2.2.2.2.1⟩ | exact HSy)
    (first | (go_at_call 41; refine H2.out.mono ?_; rintro e2 w2 ⟨rfl, h2⟩; have ha2 := h2.acts; have HSy := And.intro ha2.2.1 (And.intro ha2.2.2.2.2.1 ha2.2.2.2.2.2.1); have H2x := hide h2; clear h2 ha2))
  clear HSy
  go_wp2_with fail
  go_ret
  exact ⟨by simp, H2x.out.drop⟩

set_option maxRecDepth 2000 in
set_option maxHeartbeats 4000000 in
theorem lawStores_restart {T : Type} {R : T → (Nat → Nat) → World → Prop} {t t1 t2 : T} {k : Nat → Nat} {w wr : World} {b px py nC nR nI : Nat} {X : List (Nat × Nat × List Value)} (hF : Fam R) (A B : Int) (err : Int)
    (HX : Step R 42 #[.pointer (some ⟨px, 0, none⟩), .int .i64 A] (.int .i64 err) t t1)
    (HY : Step R 43 #[.pointer (some ⟨py, 0, none⟩), .int .i64 A] (.int .i64 err) t1 t2)
    (h : LSt R t k w wr b px py nC nR nI X) :
    Calls Tryz.prog 17 #[.pointer (some ⟨b, 0, none⟩), .agg #[.int .i64 7, .int .i64 A, .int .i64 B]] wr fun e w' => e = .returned (.bool true) ∧ LSt R t2 k w w' b px py nC nR nI X := by
  have h0 := h.alloc hF 33 [.int .i64 7, .int .i64 A, .int .i64 B]
  obtain ⟨z0, z1, hbl⟩ := h.cells
  have hbg : ¬ b = wr.heap.size := by omega
  have H0 := hide h0
  have HF := hide hF
  have HX' := hide HX
  have HY' := hide HY
  clear h h0 HX HY hF
  have H1 := hide ((H0.out.drew HF.out).call HF.out HX'.out)
  have HA := hide (H0.out.drew HF.out).acts
  go_enter Tryz.func17, Tryz.ntmps17
  go_wp2_with fail
  go_region_held3 (fun W => W.cell? ⟨b, 0, none⟩ = some (.pointer (some ⟨px, 0, none⟩)) ∧ W.cell? ⟨wr.heap.size, 1, none⟩ = some (.int .i64 A) ∧ W.cell? ⟨wr.heap.size, 2, none⟩ = some (.int .i64 B)) (first | exact ⟨HA.out.1, HA.out.2.2.2.2.1, HA.out.2.2.2.2.2.1⟩ | exact HSx)
    (first | (go_at_call 42; refine H1.out.mono ?_; rintro e1 w1 ⟨rfl, h1⟩; have ha1 := h1.acts; have HSx := And.intro ha1.1 (And.intro ha1.2.2.2.2.1 ha1.2.2.2.2.2.1); have H1x := hide h1; clear h1 ha1))
  have HA1 := hide (H1x.out.drew HF.out).acts
  have H2 := hide ((H1x.out.drew HF.out).call HF.out HY'.out)
  obtain ⟨y0, y1, hbl1, g0, g1, g2, hgl⟩ := H1x.out.acts
  clear HSx z0 z1 hbl
  go_wp2_with fail
  go_region_held3 (fun W => W.cell? ⟨b, 1, none⟩ = some (.pointer (some ⟨py, 0, none⟩)) ∧ W.cell? ⟨wr.heap.size, 1, none⟩ = some (.int .i64 A) ∧ W.cell? ⟨wr.heap.size, 2, none⟩ = some (.int .i64 B)) (first | exact ⟨HA1.out.2.1, HA1.out.2.2.2.2.1, HA1.out.2.2.2.2.2.1⟩ | exact HSy)
    (first | (go_at_call 43; refine H2.out.mono ?_; rintro e2 w2 ⟨rfl, h2⟩; have ha2 := h2.acts; have HSy := And.intro ha2.2.1 (And.intro ha2.2.2.2.2.1 ha2.2.2.2.2.2.1); have H2x := hide h2; clear h2 ha2))
  clear HSy
  go_wp2_with fail
  go_ret
  exact ⟨by simp, H2x.out.drop⟩

end Go.Proofs.YtfpbkghcjaonlaaGreat

/-
  sixfoldlaw: looking; net.
-/
namespace Go.Proofs.YtfpbkghcjaonlaaGreat
open Go.RowKit

/-- Both sides answer alike, whatever is asked. -/
structure SidesA (px py : Nat) (w : World) (fl : Nat) : Prop where
  seg : ∀ n : Int, ∃ d : SegD, d.cuts.length ≤ 4000000000 ∧ d.kept.length ≤ 4000000000 ∧ d.buf.length ≤ 4000000000 ∧
    (∀ W, Below w.heap.size w W → Calls Tryz.prog 51 #[.pointer (some ⟨px, 0, none⟩), .int .i64 n] W fun e w' => (∃ v, e = .returned v ∧ XAns W.heap.size w' d v) ∧ Below W.heap.size W w') ∧
    (∀ W, Below w.heap.size w W → Calls Tryz.prog 52 #[.pointer (some ⟨py, 0, none⟩), .int .i64 n] W fun e w' => (∃ v, e = .returned v ∧ YAns w' d v) ∧ Below W.heap.size W w')
  wr : ∀ n : Int, ∃ (s : WSt) (err : Int),
    (Calls Tryz.prog 57 #[.pointer (some ⟨px, 0, none⟩), .int .i64 n] w fun e w' => e = .returned (.tuple #[s.val, .int .i64 err]) ∧ Below w.heap.size w w') ∧
    (∀ W, Below w.heap.size w W → Calls Tryz.prog 58 #[.pointer (some ⟨py, 0, none⟩), .int .i64 n] W fun e w' => e = .returned (.tuple #[s.val, .int .i64 err]) ∧ Below W.heap.size W w')
  msg : ∀ n : Int, n ≤ 9223372036854775807 → ∃ (err : Int) (m : Msg), m.cuts.length ≤ 4000000000 ∧ m.marks.length ≤ 4000000000 ∧
    (∀ W, Below w.heap.size w W → Calls Tryz.prog 59 #[.pointer (some ⟨px, 0, none⟩), .int .i64 n] W fun e w' => (∃ v, e = .returned v ∧ XMsg W.heap.size w' err m v) ∧ Below W.heap.size W w') ∧
    (∀ W, Below w.heap.size w W → Calls Tryz.prog 60 #[.pointer (some ⟨py, 0, none⟩), .int .i64 n] W fun e w' => (∃ v, e = .returned v ∧ YMsg w' err m v) ∧ Below W.heap.size W w')
  fx : Calls Tryz.prog 63 #[.pointer (some ⟨px, 0, none⟩)] w fun e w' => e = .returned (.int .i64 fl) ∧ w' = w
  fy : Calls Tryz.prog 23 #[.pointer (some ⟨py, 0, none⟩)] w fun e w' => e = .returned (.int .i64 fl) ∧ w' = w

theorem SidesA.sides {px py fl : Nat} {w : World} (h : SidesA px py w fl) (hf : fl ≤ 200) : Sides px py w fl := ⟨fun n _ _ => h.seg n, fun n _ _ => h.wr n, fun n _ _ => h.msg n (by omega), h.fx, h.fy⟩

section
variable {T : Type} {R : T → (Nat → Nat) → World → Prop} {t : T} {k : Nat → Nat} {w wr w' : World} {b px py nC nR nI fl : Nat} {X : List (Nat × Nat × List Value)}

theorem LSt.law (hF : Fam R) {k1 k2 : Nat → Nat} {nC' nR' nI' : Nat} (e0 : Evo k k1 cDuo w wr) (hr : R t k1 wr) (hX : ∀ x ∈ X, Blk k1 wr 0 x.1 x.2.1 x.2.2) (ev : Evo k1 k2 cLaw wr w') (hL : LawIs k2 w' is205 b px py nC' nR' nI') (hc : Clean k2 w') : LSt R t k w w' b px py nC' nR' nI' X :=
  ⟨k2, e0.trans (ev.mono (fun c h => by unfold cLaw at h; unfold cDuo; omega)), hF.stay _ _ _ _ _ hr ev, hL, hc, fun x hx => (hX x hx).evo ev (by unfold cLaw; omega)⟩

theorem LSt.segment (hF : Fam R) (hS : ∀ k w, R t k w → SidesA px py w fl) (n : Int) (h : LSt R t k w wr b px py nC nR nI X) (hC : nC ≤ 3900000000) (hR : nR ≤ 3900000000) :
    Calls Tryz.prog 21 #[.pointer (some ⟨b, 0, none⟩), .int .i64 n] wr fun e w' => e = .returned (.bool true) ∧ LSt R t k w w' b px py (nC + 4) (nR + 8) nI X := by
  obtain ⟨k1, e0, hr, hL, hc, hX⟩ := h
  obtain ⟨d, l1, l2, l3, cx, cy⟩ := (hS k1 wr hr).seg n
  refine (lawSegment_any n d hL hc cx cy hC hR l1 l2 l3).mono ?_
  rintro e w' ⟨rfl, k2, ev, hL2, hc2⟩
  exact ⟨rfl, LSt.law hF e0 hr hX ev hL2 hc2⟩

theorem LSt.message (hF : Fam R) (hS : ∀ k w, R t k w → SidesA px py w fl) (n : Int) (hn : n ≤ 9223372036854775807) (h : LSt R t k w wr b px py nC nR nI X) (hC : nC ≤ 3900000000) (hI : nI ≤ 3900000000) :
    Calls Tryz.prog 24 #[.pointer (some ⟨b, 0, none⟩), .int .i64 n] wr fun e w' => e = .returned (.bool true) ∧ LSt R t k w w' b px py (nC + 4) nR (nI + 4) X := by
  obtain ⟨k1, e0, hr, hL, hc, hX⟩ := h
  obtain ⟨err, m, l1, l2, cx, cy⟩ := (hS k1 wr hr).msg n hn
  refine (lawMessage_any n err m hL hc cx cy hC hI l1 l2).mono ?_
  rintro e w' ⟨rfl, k2, ev, hL2, hc2⟩
  exact ⟨rfl, LSt.law hF e0 hr hX ev hL2 hc2⟩

theorem LSt.writer (hF : Fam R) (hS : ∀ k w, R t k w → SidesA px py w fl) (n : Int) (h : LSt R t k w wr b px py nC nR nI X) :
    Calls Tryz.prog 22 #[.pointer (some ⟨b, 0, none⟩), .int .i64 n] wr fun e w' => e = .returned (.bool true) ∧ LSt R t k w w' b px py nC nR nI X := by
  have h0 := h
  obtain ⟨k1, e0, hr, hL, hc, hX⟩ := h
  obtain ⟨s, err, cx, cy⟩ := (hS k1 wr hr).wr n
  refine (lawWriter_any n s err hL cx cy).mono ?_
  rintro e w' ⟨rfl, hb⟩
  exact ⟨rfl, h0.below hF hb⟩

theorem LSt.flight (hS : ∀ k w, R t k w → SidesA px py w fl) (h : LSt R t k w wr b px py nC nR nI X) :
    Calls Tryz.prog 25 #[.pointer (some ⟨b, 0, none⟩)] wr fun e w' => e = .returned (.bool true) ∧ LSt R t k w w' b px py nC nR nI X := by
  have h0 := h
  obtain ⟨k1, e0, hr, hL, hc, hX⟩ := h
  refine (lawFlight_any (fl : Int) hL (hS k1 wr hr).fx (hS k1 wr hr).fy).mono ?_
  rintro e w' ⟨rfl, rfl⟩
  exact ⟨rfl, h0⟩

theorem LSt.looks (hF : Fam R) (h : LSt R t k w wr b px py nC nR nI X) (hC : nC ≤ 4000000000) (hR : nR ≤ 4000000000) (hI : nI ≤ 4000000000) :
    Calls Tryz.prog 11 #[.pointer (some ⟨b, 0, none⟩)] wr fun e w' => e = .returned (.bool true) ∧ LSt R t k w w' b px py nC nR nI X := by
  have h0 := h
  obtain ⟨k1, e0, hr, hL, hc, hX⟩ := h
  refine (looks_any hL hC hR hI).mono ?_
  rintro e w' ⟨rfl, hb⟩
  exact ⟨rfl, h0.below hF hb⟩

/-- How many are in flight, by the document's side. -/
theorem LSt.fy (hS : ∀ k w, R t k w → SidesA px py w fl) (h : LSt R t k w wr b px py nC nR nI X) :
    Calls Tryz.prog 23 #[.pointer (some ⟨py, 0, none⟩)] wr fun e w' => e = .returned (.int .i64 fl) ∧ w' = wr := by
  obtain ⟨k1, e0, hr, hL, hc, hX⟩ := h
  exact (hS k1 wr hr).fy
end

set_option maxRecDepth 2000 in
set_option maxHeartbeats 4000000 in
theorem lawPens_writer {T : Type} {R : T → (Nat → Nat) → World → Prop} {t : T} {k : Nat → Nat} {w wr : World} {b px py nC nR nI fl : Nat} {X : List (Nat × Nat × List Value)} (hF : Fam R) (A B : Int) (hS : ∀ k w, R t k w → SidesA px py w fl)
    (h : LSt R t k w wr b px py nC nR nI X) :
    Calls Tryz.prog 16 #[.pointer (some ⟨b, 0, none⟩), .agg #[.int .i64 16, .int .i64 A, .int .i64 B]] wr fun e w' => e = .returned (.bool true) ∧ LSt R t k w w' b px py nC nR nI X := by
  have h0 := h.alloc hF 33 [.int .i64 16, .int .i64 A, .int .i64 B]
  have H1 := hide (h0.writer hF hS A)
  clear h0 hS hF
  obtain ⟨z0, z1, hbl⟩ := h.cells
  have hbg : ¬ b = wr.heap.size := by omega
  clear h
  go_enter Tryz.func16, Tryz.ntmps16
  go_wp2_with fail
  refine H1.out.mono ?_
  rintro e1 w1 ⟨rfl, h1⟩
  have H2 := hide h1
  clear h1
  go_wp2_with fail
  go_ret
  exact ⟨rfl, H2.out.drop⟩

set_option maxRecDepth 2000 in
set_option maxHeartbeats 4000000 in
theorem lawStores_segment {T : Type} {R : T → (Nat → Nat) → World → Prop} {t : T} {k : Nat → Nat} {w wr : World} {b px py nC nR nI fl : Nat} {X : List (Nat × Nat × List Value)} (hF : Fam R) (A B : Int) (hS : ∀ k w, R t k w → SidesA px py w fl) (hC : nC ≤ 3900000000) (hR : nR ≤ 3900000000)
    (h : LSt R t k w wr b px py nC nR nI X) :
    Calls Tryz.prog 17 #[.pointer (some ⟨b, 0, none⟩), .agg #[.int .i64 15, .int .i64 A, .int .i64 B]] wr fun e w' => e = .returned (.bool true) ∧ LSt R t k w w' b px py (nC + 4) (nR + 8) nI X := by
  have h0 := h.alloc hF 33 [.int .i64 15, .int .i64 A, .int .i64 B]
  have H1 := hide (h0.segment hF hS A hC hR)
  clear h0 hS hF
  obtain ⟨z0, z1, hbl⟩ := h.cells
  have hbg : ¬ b = wr.heap.size := by omega
  clear h
  go_enter Tryz.func17, Tryz.ntmps17
  go_wp2_with fail
  refine H1.out.mono ?_
  rintro e1 w1 ⟨rfl, h1⟩
  have H2 := hide h1
  clear h1
  go_wp2_with fail
  go_ret
  exact ⟨rfl, H2.out.drop⟩

set_option maxRecDepth 2000 in
set_option maxHeartbeats 4000000 in
theorem lawNet_deliver {T : Type} {R : T → (Nat → Nat) → World → Prop} {t t1 t2 : T} {k : Nat → Nat} {w wr : World} {b px py nC nR nI fl : Nat} {X : List (Nat × Nat × List Value)} (hF : Fam R) (A B : Int) (hS : ∀ k w, R t k w → SidesA px py w fl) (hA1 : -9223372036854775808 ≤ A) (hA2 : A ≤ 9223372036854775807) (hfl : fl ≤ 200)
    (err : Int) (HX : Step R 95 #[.pointer (some ⟨px, 0, none⟩), .int .i64 (spokenOf A fl)] (.int .i64 err) t t1)
    (HY : Step R 96 #[.pointer (some ⟨py, 0, none⟩), .int .i64 (spokenOf A fl)] (.int .i64 err) t1 t2)
    (h : LSt R t k w wr b px py nC nR nI X) :
    Calls Tryz.prog 18 #[.pointer (some ⟨b, 0, none⟩), .agg #[.int .i64 9, .int .i64 A, .int .i64 B]] wr fun e w' => e = .returned (.bool true) ∧ LSt R t2 k w w' b px py nC nR nI X := by
  have h0 := h.alloc hF 33 [.int .i64 9, .int .i64 A, .int .i64 B]
  have H0 := hide h0
  have HFl := hide (h0.fy hS)
  have HSp := hide (fun W => spoken_any W A fl hfl hA1 hA2)
  have HF := hide hF
  have H1 := hide (lawDeliver_any hF (spokenOf A fl) err HX HY h0)
  obtain ⟨z0, z1, hbl⟩ := h.cells
  have hbg : ¬ b = wr.heap.size := by omega
  clear h h0 hS hF
  generalize spokenOf A fl = sp at *
  go_enter Tryz.func18, Tryz.ntmps18
  go_wp2_with fail
  refine HFl.out.mono ?_
  rintro e1 w1 ⟨rfl, hw1⟩
  subst hw1
  go_wp2_with fail
  refine (HSp.out _).mono ?_
  rintro e1 w1 ⟨rfl, hw1⟩
  subst hw1
  go_wp2_with fail
  refine H1.out.mono ?_
  rintro e2 w2 ⟨rfl, h2⟩
  have H2 := hide h2
  clear h2
  go_wp2_with fail
  go_ret
  exact ⟨rfl, H2.out.drop⟩

set_option maxRecDepth 2000 in
set_option maxHeartbeats 4000000 in
theorem lawNet_drop {T : Type} {R : T → (Nat → Nat) → World → Prop} {t t1 t2 : T} {k : Nat → Nat} {w wr : World} {b px py nC nR nI fl : Nat} {X : List (Nat × Nat × List Value)} (hF : Fam R) (A B : Int) (hS : ∀ k w, R t k w → SidesA px py w fl) (hA1 : -9223372036854775808 ≤ A) (hA2 : A ≤ 9223372036854775807) (hfl : fl ≤ 200)
    (err : Int) (HX : Step R 46 #[.pointer (some ⟨px, 0, none⟩), .int .i64 (spokenOf A fl)] (.int .i64 err) t t1)
    (HY : Step R 47 #[.pointer (some ⟨py, 0, none⟩), .int .i64 (spokenOf A fl)] (.int .i64 err) t1 t2)
    (h : LSt R t k w wr b px py nC nR nI X) :
    Calls Tryz.prog 18 #[.pointer (some ⟨b, 0, none⟩), .agg #[.int .i64 10, .int .i64 A, .int .i64 B]] wr fun e w' => e = .returned (.bool true) ∧ LSt R t2 k w w' b px py nC nR nI X := by
  have h0 := h.alloc hF 33 [.int .i64 10, .int .i64 A, .int .i64 B]
  have H0 := hide h0
  have HFl := hide (h0.fy hS)
  have HSp := hide (fun W => spoken_any W A fl hfl hA1 hA2)
  have HF := hide hF
  have H1 := hide (h0.call hF HX)
  have HY' := hide HY
  clear HX HY
  obtain ⟨z0, z1, hbl⟩ := h.cells
  have hbg : ¬ b = wr.heap.size := by omega
  clear h h0 hS hF
  generalize spokenOf A fl = sp at *
  go_enter Tryz.func18, Tryz.ntmps18
  go_wp2_with fail
  refine HFl.out.mono ?_
  rintro e1 w1 ⟨rfl, hw1⟩
  subst hw1
  go_wp2_with fail
  refine (HSp.out _).mono ?_
  rintro e1 w1 ⟨rfl, hw1⟩
  subst hw1
  go_wp2_with fail
  refine H1.out.mono ?_
  rintro e2 w2 ⟨rfl, h2⟩
  obtain ⟨y0, y1, hbl1⟩ := h2.cells
  have H2 := hide (h2.call HF.out HY'.out)
  clear h2
  go_wp2_with fail
  refine H2.out.mono ?_
  rintro e3 w3 ⟨rfl, h3⟩
  have H3 := hide h3
  clear h3
  go_wp2_with fail
  go_ret
  exact ⟨by simp, H3.out.drop⟩

set_option maxRecDepth 2000 in
set_option maxHeartbeats 4000000 in
theorem lawNet_copy {T : Type} {R : T → (Nat → Nat) → World → Prop} {t t1 t2 : T} {k : Nat → Nat} {w wr : World} {b px py nC nR nI fl : Nat} {X : List (Nat × Nat × List Value)} (hF : Fam R) (A B : Int) (hS : ∀ k w, R t k w → SidesA px py w fl) (hA1 : -9223372036854775808 ≤ A) (hA2 : A ≤ 9223372036854775807) (hfl : fl ≤ 200)
    (err : Int) (HX : Step R 48 #[.pointer (some ⟨px, 0, none⟩), .int .i64 (spokenOf A fl)] (.int .i64 err) t t1)
    (HY : Step R 49 #[.pointer (some ⟨py, 0, none⟩), .int .i64 (spokenOf A fl)] (.int .i64 err) t1 t2)
    (h : LSt R t k w wr b px py nC nR nI X) :
    Calls Tryz.prog 18 #[.pointer (some ⟨b, 0, none⟩), .agg #[.int .i64 11, .int .i64 A, .int .i64 B]] wr fun e w' => e = .returned (.bool true) ∧ LSt R t2 k w w' b px py nC nR nI X := by
  have h0 := h.alloc hF 33 [.int .i64 11, .int .i64 A, .int .i64 B]
  have H0 := hide h0
  have HFl := hide (h0.fy hS)
  have HSp := hide (fun W => spoken_any W A fl hfl hA1 hA2)
  have HF := hide hF
  have H1 := hide (h0.call hF HX)
  have HY' := hide HY
  clear HX HY
  obtain ⟨z0, z1, hbl⟩ := h.cells
  have hbg : ¬ b = wr.heap.size := by omega
  clear h h0 hS hF
  generalize spokenOf A fl = sp at *
  go_enter Tryz.func18, Tryz.ntmps18
  go_wp2_with fail
  refine HFl.out.mono ?_
  rintro e1 w1 ⟨rfl, hw1⟩
  subst hw1
  go_wp2_with fail
  refine (HSp.out _).mono ?_
  rintro e1 w1 ⟨rfl, hw1⟩
  subst hw1
  go_wp2_with fail
  refine H1.out.mono ?_
  rintro e2 w2 ⟨rfl, h2⟩
  obtain ⟨y0, y1, hbl1⟩ := h2.cells
  have H2 := hide (h2.call HF.out HY'.out)
  clear h2
  go_wp2_with fail
  refine H2.out.mono ?_
  rintro e3 w3 ⟨rfl, h3⟩
  have H3 := hide h3
  clear h3
  go_wp2_with fail
  go_ret
  exact ⟨by simp, H3.out.drop⟩

set_option maxRecDepth 2000 in
set_option maxHeartbeats 4000000 in
theorem lawNet_message {T : Type} {R : T → (Nat → Nat) → World → Prop} {t : T} {k : Nat → Nat} {w wr : World} {b px py nC nR nI fl : Nat} {X : List (Nat × Nat × List Value)} (hF : Fam R) (A B : Int) (hS : ∀ k w, R t k w → SidesA px py w fl) (hA1 : -9223372036854775808 ≤ A) (hA2 : A ≤ 9223372036854775807) (hfl : fl ≤ 200) (hC : nC ≤ 3900000000) (hI : nI ≤ 3900000000)
    (h : LSt R t k w wr b px py nC nR nI X) :
    Calls Tryz.prog 18 #[.pointer (some ⟨b, 0, none⟩), .agg #[.int .i64 14, .int .i64 A, .int .i64 B]] wr fun e w' => e = .returned (.bool true) ∧ LSt R t k w w' b px py (nC + 4) nR (nI + 4) X := by
  have h0 := h.alloc hF 33 [.int .i64 14, .int .i64 A, .int .i64 B]
  have H0 := hide h0
  have HFl := hide (h0.fy hS)
  have HSp := hide (fun W => spoken_any W A fl hfl hA1 hA2)
  have HF := hide hF
  have hsp : spokenOf A fl ≤ 9223372036854775807 := by
    unfold spokenOf
    split
    · omega
    · have := Int.emod_lt_of_pos A (show (0 : Int) < (fl : Int) + 1 by omega)
      omega
  have H1 := hide (h0.message hF hS (spokenOf A fl) hsp hC hI)
  obtain ⟨z0, z1, hbl⟩ := h.cells
  have hbg : ¬ b = wr.heap.size := by omega
  clear h h0 hS hF
  generalize spokenOf A fl = sp at *
  go_enter Tryz.func18, Tryz.ntmps18
  go_wp2_with fail
  refine HFl.out.mono ?_
  rintro e1 w1 ⟨rfl, hw1⟩
  subst hw1
  go_wp2_with fail
  refine (HSp.out _).mono ?_
  rintro e1 w1 ⟨rfl, hw1⟩
  subst hw1
  go_wp2_with fail
  refine H1.out.mono ?_
  rintro e2 w2 ⟨rfl, h2⟩
  have H2 := hide h2
  clear h2
  go_wp2_with fail
  go_ret
  exact ⟨rfl, H2.out.drop⟩

set_option maxRecDepth 2000 in
set_option maxHeartbeats 4000000 in
theorem lawNet_flight {T : Type} {R : T → (Nat → Nat) → World → Prop} {t : T} {k : Nat → Nat} {w wr : World} {b px py nC nR nI fl : Nat} {X : List (Nat × Nat × List Value)} (hF : Fam R) (A B : Int) (hS : ∀ k w, R t k w → SidesA px py w fl) (hA1 : -9223372036854775808 ≤ A) (hA2 : A ≤ 9223372036854775807) (hfl : fl ≤ 200)
    (h : LSt R t k w wr b px py nC nR nI X) :
    Calls Tryz.prog 18 #[.pointer (some ⟨b, 0, none⟩), .agg #[.int .i64 13, .int .i64 A, .int .i64 B]] wr fun e w' => e = .returned (.bool true) ∧ LSt R t k w w' b px py nC nR nI X := by
  have h0 := h.alloc hF 33 [.int .i64 13, .int .i64 A, .int .i64 B]
  have H0 := hide h0
  have HFl := hide (h0.fy hS)
  have HSp := hide (fun W => spoken_any W A fl hfl hA1 hA2)
  have HF := hide hF
  have H1 := hide (h0.flight hS)
  obtain ⟨z0, z1, hbl⟩ := h.cells
  have hbg : ¬ b = wr.heap.size := by omega
  clear h h0 hS hF
  generalize spokenOf A fl = sp at *
  go_enter Tryz.func18, Tryz.ntmps18
  go_wp2_with fail
  refine HFl.out.mono ?_
  rintro e1 w1 ⟨rfl, hw1⟩
  subst hw1
  go_wp2_with fail
  refine (HSp.out _).mono ?_
  rintro e1 w1 ⟨rfl, hw1⟩
  subst hw1
  go_wp2_with fail
  refine H1.out.mono ?_
  rintro e2 w2 ⟨rfl, h2⟩
  have H2 := hide h2
  clear h2
  go_wp2_with fail
  go_ret
  exact ⟨rfl, H2.out.drop⟩

end Go.Proofs.YtfpbkghcjaonlaaGreat

/-
  sixfoldlaw: net, 1 to 60 deliveries.
-/
namespace Go.Proofs.YtfpbkghcjaonlaaGreat
open Go.RowKit

theorem pickOf_range (c : Int) : 0 ≤ pickOf c 60 ∧ pickOf c 60 < 60 := by
  unfold pickOf
  exact ⟨Int.emod_nonneg _ (by omega), Int.emod_lt_of_pos _ (by omega)⟩

set_option maxRecDepth 2000 in
set_option maxHeartbeats 8000000 in
theorem lawNet_arrive {T : Type} {R : T → (Nat → Nat) → World → Prop} (f : Nat → T) (fl : T → Nat) {k : Nat → Nat} {w wr : World} {b px py nC nR nI : Nat} {X : List (Nat × Nat × List Value)} (hF : Fam R) (A B : Int)
    (hS : ∀ j, j ≤ 60 → ∀ k w, R (f j) k w → SidesA px py w (fl (f j))) (hA1 : -9223372036854775808 ≤ A) (hA2 : A ≤ 9223372036854775807) (hfl : fl (f 0) ≤ 200)
    (hD : ∀ j, j < 60 → ∃ err t1, Step R 95 #[.pointer (some ⟨px, 0, none⟩), .int .i64 0] (.int .i64 err) (f j) t1 ∧ Step R 96 #[.pointer (some ⟨py, 0, none⟩), .int .i64 0] (.int .i64 err) t1 (f (j + 1)))
    (h : LSt R (f 0) k w wr b px py nC nR nI X) :
    Calls Tryz.prog 18 #[.pointer (some ⟨b, 0, none⟩), .agg #[.int .i64 12, .int .i64 A, .int .i64 B]] wr fun e w' => e = .returned (.bool true) ∧ ∃ j, j ≤ 60 ∧ LSt R (f j) k w w' b px py nC nR nI X := by
  have h0 := h.alloc hF 33 [.int .i64 12, .int .i64 A, .int .i64 B]
  have H0 := hide h0
  have HFl := hide (h0.fy (hS 0 (by omega)))
  have HSp := hide (fun W => spoken_any W A (fl (f 0)) hfl hA1 hA2)
  have HP := hide (fun W => pick_any W A hA1 hA2)
  have HF := hide hF
  have HD := hide hD
  have HS := hide hS
  obtain ⟨z0, z1, hbl⟩ := h.cells
  have hbg : ¬ b = wr.heap.size := by omega
  obtain ⟨hp0, hp1⟩ := pickOf_range A
  clear h h0 hS hF hD
  generalize spokenOf A (fl (f 0)) = sp at *
  generalize pickOf A 60 = pk at *
  obtain ⟨ga, hga⟩ : ∃ ga, ga = wr.heap.size := ⟨_, rfl⟩
  obtain ⟨Wr, hWr⟩ : ∃ Wr, Wr = wr := ⟨_, rfl⟩
  subst hWr
  go_enter Tryz.func18, Tryz.ntmps18
  go_wp2_with fail
  refine HFl.out.mono ?_
  rintro e1 w1 ⟨rfl, hw1⟩
  have hw2 := hw1.symm
  subst hw2
  go_wp2_with fail
  refine (HSp.out _).mono ?_
  rintro e1 w1 ⟨rfl, hw1⟩
  have hw2 := hw1.symm
  subst hw2
  go_wp2_with fail
  rw [← hga]
  have HGA := hide hga
  clear hga
  go_loopw [5, 11] (fun n i wr => ∃ j : Nat, j ≤ 60 ∧ (j : Int) ≤ pk + 1 ∧ i = .int .i64 j ∧ n = .int .i64 (fl (f j)) ∧ Hid (LSt R (f j) k w wr b px py nC nR nI ((ga, 33, [.int .i64 12, .int .i64 A, .int .i64 B]) :: X))) (fun n i _ => 61 - (intOf i).toNat)
  case atStart => exact ⟨0, by omega, by omega, rfl, rfl, by rw [HGA.out]; exact H0⟩
  case round =>
    obtain ⟨j, hj, hjp, rfl, rfl, hst⟩ := hrel
    obtain ⟨y0, y1, yl, g0, g1, g2, gl⟩ := hst.out.acts
    by_cases hlt : (j : Int) ≤ pk
    · have hd : decide ((j : Int) ≤ pk) = true := by simpa using hlt
      by_cases hpos : 0 < fl (f j)
      · have hd2 : decide ((0 : Int) < (fl (f j) : Int)) = true := by simp; omega
        obtain ⟨err, t1, hx, hy⟩ := HD.out j (by omega)
        have H1 := hide (lawDeliver_any HF.out 0 err hx hy hst.out)
        clear hx hy
        go_wp2_with fail
        refine (HP.out _).mono ?_
        rintro e1 w1 ⟨rfl, hw1⟩
        have hw2 := hw1.symm
        subst hw2
        go_wp2_with fail
        refine H1.out.mono ?_
        rintro e2 w2 ⟨rfl, h2⟩
        obtain ⟨x0, x1, xl⟩ := h2.cells
        have H3 := hide (h2.fy (HS.out (j + 1) (by omega)))
        have H2 := hide h2
        clear h2
        go_wp2_with fail
        refine H3.out.mono ?_
        rintro e1 w1 ⟨rfl, hw1⟩
        have hw2 := hw1.symm
        subst hw2
        go_wp2_with fail
        go_roundw
        case rel => exact ⟨j + 1, by omega, by omega, by go_num, rfl, H2⟩
        case measure => simp [intOf]; omega
      · have hd2 : decide ((0 : Int) < (fl (f j) : Int)) = false := by simp; omega
        go_wp2_with fail
        refine (HP.out _).mono ?_
        rintro e1 w1 ⟨rfl, hw1⟩
        have hw2 := hw1.symm
        subst hw2
        go_wp2_with fail
        go_ret
        exact ⟨rfl, j, hj, hst.out.drop⟩
    · have hd : decide ((j : Int) ≤ pk) = false := by simpa using hlt
      go_wp2_with fail
      refine (HP.out _).mono ?_
      rintro e1 w1 ⟨rfl, hw1⟩
      have hw2 := hw1.symm
      subst hw2
      go_wp2_with fail
      go_ret
      exact ⟨rfl, j, hj, hst.out.drop⟩
end Go.Proofs.YtfpbkghcjaonlaaGreat

/-
  sixfoldlaw: act.
-/
namespace Go.Proofs.YtfpbkghcjaonlaaGreat
open Go.RowKit

/-- So many calls are played at most. -/
def LIM : Nat := 70000000
def i64R (n : Int) : Prop := -9223372036854775808 ≤ n ∧ n ≤ 9223372036854775807

/-- Both sides, call by call; G m t: t is a state after at most m calls. -/
structure Duet {T : Type} (R : T → (Nat → Nat) → World → Prop) (px py : Nat) (G : Nat → T → Prop) (fl : T → Nat) (p : Nat) : Prop where
  fam : Fam R
  mono : ∀ m m' t, G m t → m ≤ m' → G m' t
  flle : ∀ m t, G m t → fl t ≤ 200
  sides : ∀ m t, G m t → m ≤ LIM → ∀ k w, R t k w → SidesA px py w (fl t)
  deliver : ∀ m t n, G m t → m < LIM → i64R n → ∃ err t1 t2, Step R 95 #[.pointer (some ⟨px, 0, none⟩), .int .i64 n] (.int .i64 err) t t1 ∧ Step R 96 #[.pointer (some ⟨py, 0, none⟩), .int .i64 n] (.int .i64 err) t1 t2 ∧ G (m + 1) t2
  drop : ∀ m t n, G m t → m < LIM → i64R n → ∃ err t1 t2, Step R 46 #[.pointer (some ⟨px, 0, none⟩), .int .i64 n] (.int .i64 err) t t1 ∧ Step R 47 #[.pointer (some ⟨py, 0, none⟩), .int .i64 n] (.int .i64 err) t1 t2 ∧ G (m + 1) t2
  copy : ∀ m t n, G m t → m < LIM → i64R n → ∃ err t1 t2, Step R 48 #[.pointer (some ⟨px, 0, none⟩), .int .i64 n] (.int .i64 err) t t1 ∧ Step R 49 #[.pointer (some ⟨py, 0, none⟩), .int .i64 n] (.int .i64 err) t1 t2 ∧ G (m + 1) t2
  open_ : ∀ m t, G m t → m < LIM → ∃ val err t1 t2, Step R 28 #[.pointer (some ⟨px, 0, none⟩)] (.tuple #[.int .i64 val, .int .i64 err]) t t1 ∧ Step R 29 #[.pointer (some ⟨py, 0, none⟩)] (.tuple #[.int .i64 val, .int .i64 err]) t1 t2 ∧ G (m + 1) t2
  resend : ∀ m t n, G m t → m < LIM → i64R n → ∃ err t1 t2, Step R 30 #[.pointer (some ⟨px, 0, none⟩), .int .i64 n] (.int .i64 err) t t1 ∧ Step R 31 #[.pointer (some ⟨py, 0, none⟩), .int .i64 n] (.int .i64 err) t1 t2 ∧ G (m + 1) t2
  append : p % 2 = 1 → ∀ m t n v, G m t → m < LIM → i64R n → i64R v → ∃ val err t1 t2, Step R 32 #[.pointer (some ⟨px, 0, none⟩), .int .i64 n, .int .i64 v] (.tuple #[.int .i64 val, .int .i64 err]) t t1 ∧ Step R 33 #[.pointer (some ⟨py, 0, none⟩), .int .i64 n, .int .i64 v] (.tuple #[.int .i64 val, .int .i64 err]) t1 t2 ∧ G (m + 1) t2
  sync : p % 2 = 1 → ∀ m t n, G m t → m < LIM → i64R n → ∃ err t1 t2, Step R 36 #[.pointer (some ⟨px, 0, none⟩), .int .i64 n] (.int .i64 err) t t1 ∧ Step R 37 #[.pointer (some ⟨py, 0, none⟩), .int .i64 n] (.int .i64 err) t1 t2 ∧ G (m + 1) t2
  read : 2 ≤ p → ∀ m t n v, G m t → m < LIM → i64R n → i64R v → ∃ val err t1 t2, Step R 34 #[.pointer (some ⟨px, 0, none⟩), .int .i64 n, .int .i64 v] (.tuple #[.int .i64 val, .int .i64 err]) t t1 ∧ Step R 35 #[.pointer (some ⟨py, 0, none⟩), .int .i64 n, .int .i64 v] (.tuple #[.int .i64 val, .int .i64 err]) t1 t2 ∧ G (m + 1) t2
  gossip : 2 ≤ p → ∀ m t n v, G m t → m < LIM → i64R n → i64R v → ∃ err t1 t2, Step R 38 #[.pointer (some ⟨px, 0, none⟩), .int .i64 n, .int .i64 v] (.int .i64 err) t t1 ∧ Step R 39 #[.pointer (some ⟨py, 0, none⟩), .int .i64 n, .int .i64 v] (.int .i64 err) t1 t2 ∧ G (m + 1) t2
  crash : 2 ≤ p → ∀ m t n, G m t → m < LIM → i64R n → ∃ err t1 t2, Step R 40 #[.pointer (some ⟨px, 0, none⟩), .int .i64 n] (.int .i64 err) t t1 ∧ Step R 41 #[.pointer (some ⟨py, 0, none⟩), .int .i64 n] (.int .i64 err) t1 t2 ∧ G (m + 1) t2
  restart : 2 ≤ p → ∀ m t n, G m t → m < LIM → i64R n → ∃ err t1 t2, Step R 42 #[.pointer (some ⟨px, 0, none⟩), .int .i64 n] (.int .i64 err) t t1 ∧ Step R 43 #[.pointer (some ⟨py, 0, none⟩), .int .i64 n] (.int .i64 err) t1 t2 ∧ G (m + 1) t2

theorem spokenOf_i64 (A : Int) (fl : Nat) (h : i64R A) (hf : fl ≤ 200) : i64R (spokenOf A fl) := by
  unfold i64R at *
  unfold spokenOf
  split
  · exact h
  · have h1 := Int.emod_lt_of_pos A (show (0 : Int) < (fl : Int) + 1 by omega)
    have h2 := Int.emod_nonneg A (show (fl : Int) + 1 ≠ 0 by omega)
    omega

section
variable {T : Type} {R : T → (Nat → Nat) → World → Prop} {t : T} {k : Nat → Nat} {w wr : World} {b px py nC nR nI : Nat} {X : List (Nat × Nat × List Value)} {G : Nat → T → Prop} {fl : T → Nat} {p : Nat}

/-- So many deliveries, one behind the other. -/
theorem Duet.many (D : Duet R px py G fl p) (m : Nat) (hG : G m t) : ∀ N, m + N ≤ LIM → ∃ f : Nat → T, f 0 = t ∧ (∀ j, j ≤ N → G (m + j) (f j)) ∧
    ∀ j, j < N → ∃ err t1, Step R 95 #[.pointer (some ⟨px, 0, none⟩), .int .i64 0] (.int .i64 err) (f j) t1 ∧ Step R 96 #[.pointer (some ⟨py, 0, none⟩), .int .i64 0] (.int .i64 err) t1 (f (j + 1))
  | 0, _ => ⟨fun _ => t, rfl, fun j hj => by have : j = 0 := by omega
                                             subst this; exact hG, fun j hj => by omega⟩
  | N + 1, h => by
    obtain ⟨f, h0, h1, h2⟩ := D.many m hG N (by omega)
    obtain ⟨err, t1, t2, sx, sy, hg⟩ := D.deliver (m + N) (f N) 0 (h1 N (Nat.le_refl _)) (by omega) ⟨by omega, by omega⟩
    refine ⟨fun j => if j ≤ N then f j else t2, by simpa using h0, fun j hj => ?_, fun j hj => ?_⟩
    · by_cases hjn : j ≤ N
      · simp only [hjn, if_true]; exact h1 j hjn
      · have : j = N + 1 := by omega
        subst this
        simp only [hjn, if_false]
        exact hg
    · by_cases hjn : j < N
      · obtain ⟨e, t3, a, c⟩ := h2 j hjn
        refine ⟨e, t3, ?_, ?_⟩
        · simpa [show j ≤ N by omega] using a
        · simpa [show j + 1 ≤ N by omega] using c
      · have : j = N := by omega
        subst this
        refine ⟨err, t1, ?_, ?_⟩
        · simpa using sx
        · simpa [show ¬ (j + 1 ≤ j) by omega] using sy

/-- What an act leaves behind. -/
def ActPost (R : T → (Nat → Nat) → World → Prop) (G : Nat → T → Prop) (m : Nat) (k : Nat → Nat) (w : World) (b px py nC nR nI : Nat) (X : List (Nat × Nat × List Value)) (w' : World) : Prop :=
  ∃ t' nC' nR' nI', G (m + 60) t' ∧ nC' ≤ nC + 4 ∧ nR' ≤ nR + 8 ∧ nI' ≤ nI + 4 ∧ LSt R t' k w w' b px py nC' nR' nI' X

theorem ActPost.of {m m' : Nat} {t' : T} {w' : World} (D : Duet R px py G fl p) (hg : G m' t') (hm : m' ≤ m + 60) (h : LSt R t' k w w' b px py nC nR nI X) : ActPost R G m k w b px py nC nR nI X w' :=
  ⟨t', nC, nR, nI, D.mono _ _ _ hg hm, by omega, by omega, by omega, h⟩
end
end Go.Proofs.YtfpbkghcjaonlaaGreat
