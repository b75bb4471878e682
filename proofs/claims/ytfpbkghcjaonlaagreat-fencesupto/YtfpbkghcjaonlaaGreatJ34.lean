import Derived.Test.YtfpbkghcjaonlaaGreatJ33
import Derived.Test.YtfpbkghcjaonlaaGreatJ17
import Derived.Test.YtfpbkghcjaonlaaGreatJ25
import Derived.Test.YtfpbkghcjaonlaaGreatJ30
import Derived.Test.YtfpbkghcjaonlaaGreatJ31
import Derived.Test.YtfpbkghcjaonlaaGreatJ32
/-
  sixfoldlaw: act, whole.
-/
namespace Go.Proofs.YtfpbkghcjaonlaaGreat
open Go.RowKit

section
variable {T : Type} {R : T → (Nat → Nat) → World → Prop} {t : T} {k : Nat → Nat} {w wr : World} {b px py nC nR nI : Nat} {X : List (Nat × Nat × List Value)} {G : Nat → T → Prop} {fl : T → Nat} {p : Nat}

set_option maxRecDepth 2000 in
set_option maxHeartbeats 8000000 in
theorem act_pens (hF : Fam R) (K A B : Int) (hK : K = 1 ∨ K = 2 ∨ K = 3 ∨ K = 8 ∨ K = 16) (P : World → Prop)
    (HC : ∀ W, LSt R t k w W b px py nC nR nI X → Calls Tryz.prog 16 #[.pointer (some ⟨b, 0, none⟩), .agg #[.int .i64 K, .int .i64 A, .int .i64 B]] W fun e w' => e = .returned (.bool true) ∧ P w') (h : LSt R t k w wr b px py nC nR nI X) :
    Calls Tryz.prog 10 #[.pointer (some ⟨b, 0, none⟩), .agg #[.int .i64 K, .int .i64 A, .int .i64 B]] wr fun e w' => e = .returned (.bool true) ∧ P w' := by
  have H1 := hide (HC _ (h.alloc hF 33 [.int .i64 K, .int .i64 A, .int .i64 B]).drop)
  clear HC h hF
  rcases hK with rfl | rfl | rfl | rfl | rfl
  all_goals
    go_enter Tryz.func10, Tryz.ntmps10
    go_wp2_with fail
    refine H1.out.mono ?_
    rintro e1 w1 ⟨rfl, h1⟩
    have H2 := hide h1
    clear h1
    go_wp2_with fail
    go_ret
    exact ⟨rfl, H2.out⟩

set_option maxRecDepth 2000 in
set_option maxHeartbeats 8000000 in
theorem act_stores (hF : Fam R) (K A B : Int) (hK : K = 4 ∨ K = 5 ∨ K = 6 ∨ K = 7 ∨ K = 15) (P : World → Prop)
    (HC : ∀ W, LSt R t k w W b px py nC nR nI X → Calls Tryz.prog 17 #[.pointer (some ⟨b, 0, none⟩), .agg #[.int .i64 K, .int .i64 A, .int .i64 B]] W fun e w' => e = .returned (.bool true) ∧ P w') (h : LSt R t k w wr b px py nC nR nI X) :
    Calls Tryz.prog 10 #[.pointer (some ⟨b, 0, none⟩), .agg #[.int .i64 K, .int .i64 A, .int .i64 B]] wr fun e w' => e = .returned (.bool true) ∧ P w' := by
  have H1 := hide (HC _ (h.alloc hF 33 [.int .i64 K, .int .i64 A, .int .i64 B]).drop)
  clear HC h hF
  rcases hK with rfl | rfl | rfl | rfl | rfl
  all_goals
    go_enter Tryz.func10, Tryz.ntmps10
    go_wp2_with fail
    refine H1.out.mono ?_
    rintro e1 w1 ⟨rfl, h1⟩
    have H2 := hide h1
    clear h1
    go_wp2_with fail
    go_ret
    exact ⟨rfl, H2.out⟩

set_option maxRecDepth 2000 in
set_option maxHeartbeats 8000000 in
theorem act_net (hF : Fam R) (K A B : Int) (hK : K = 9 ∨ K = 10 ∨ K = 11 ∨ K = 12 ∨ K = 13 ∨ K = 14) (P : World → Prop)
    (HC : ∀ W, LSt R t k w W b px py nC nR nI X → Calls Tryz.prog 18 #[.pointer (some ⟨b, 0, none⟩), .agg #[.int .i64 K, .int .i64 A, .int .i64 B]] W fun e w' => e = .returned (.bool true) ∧ P w') (h : LSt R t k w wr b px py nC nR nI X) :
    Calls Tryz.prog 10 #[.pointer (some ⟨b, 0, none⟩), .agg #[.int .i64 K, .int .i64 A, .int .i64 B]] wr fun e w' => e = .returned (.bool true) ∧ P w' := by
  have H1 := hide (HC _ (h.alloc hF 33 [.int .i64 K, .int .i64 A, .int .i64 B]).drop)
  clear HC h hF
  rcases hK with rfl | rfl | rfl | rfl | rfl | rfl
  all_goals
    go_enter Tryz.func10, Tryz.ntmps10
    go_wp2_with fail
    refine H1.out.mono ?_
    rintro e1 w1 ⟨rfl, h1⟩
    have H2 := hide h1
    clear h1
    go_wp2_with fail
    go_ret
    exact ⟨rfl, H2.out⟩

set_option maxRecDepth 2000 in
set_option maxHeartbeats 8000000 in
theorem act_none (hF : Fam R) (K A B : Int) (hK : K < 1 ∨ 16 < K) (h : LSt R t k w wr b px py nC nR nI X) :
    Calls Tryz.prog 10 #[.pointer (some ⟨b, 0, none⟩), .agg #[.int .i64 K, .int .i64 A, .int .i64 B]] wr fun e w' => e = .returned (.bool true) ∧ LSt R t k w w' b px py nC nR nI X := by
  have H1 := hide (h.alloc hF 33 [.int .i64 K, .int .i64 A, .int .i64 B]).drop
  have k1 : (K == 1) = false := by simp; omega
  have k2 : (K == 2) = false := by simp; omega
  have k3 : (K == 3) = false := by simp; omega
  have k4 : (K == 4) = false := by simp; omega
  have k5 : (K == 5) = false := by simp; omega
  have k6 : (K == 6) = false := by simp; omega
  have k7 : (K == 7) = false := by simp; omega
  have k8 : (K == 8) = false := by simp; omega
  have k9 : (K == 9) = false := by simp; omega
  have k10 : (K == 10) = false := by simp; omega
  have k11 : (K == 11) = false := by simp; omega
  have k12 : (K == 12) = false := by simp; omega
  have k13 : (K == 13) = false := by simp; omega
  have k14 : (K == 14) = false := by simp; omega
  have k15 : (K == 15) = false := by simp; omega
  have k16 : (K == 16) = false := by simp; omega
  clear h hF hK
  go_enter Tryz.func10, Tryz.ntmps10
  go_wp2_with fail
  go_ret
  exact ⟨rfl, H1.out⟩

theorem act_any (D : Duet R px py G fl p) (m : Nat) (hG : G m t) (hm : m + 60 ≤ LIM) (K A B : Int) (hA : i64R A) (hB : i64R B) (hfit : fitsOf K p = true) (hC : nC ≤ 3900000000) (hR : nR ≤ 3900000000) (hI : nI ≤ 3900000000) (h : LSt R t k w wr b px py nC nR nI X) :
    Calls Tryz.prog 10 #[.pointer (some ⟨b, 0, none⟩), .agg #[.int .i64 K, .int .i64 A, .int .i64 B]] wr fun e w' => e = .returned (.bool true) ∧ ActPost R G m k w b px py nC nR nI X w' := by
  have hF := D.fam
  have hfl := D.flle m t hG
  have hS := D.sides m t hG (by omega)
  have hsp := spokenOf_i64 A (fl t) hA hfl
  have hm1 : m < LIM := by omega
  by_cases hK : K < 1 ∨ 16 < K
  · refine (act_none hF K A B hK h).mono ?_
    rintro e w' ⟨rfl, h'⟩
    exact ⟨rfl, ActPost.of D hG (by omega) h'⟩
  have hcases : K = 1 ∨ K = 2 ∨ K = 3 ∨ K = 4 ∨ K = 5 ∨ K = 6 ∨ K = 7 ∨ K = 8 ∨ K = 9 ∨ K = 10 ∨ K = 11 ∨ K = 12 ∨ K = 13 ∨ K = 14 ∨ K = 15 ∨ K = 16 := by omega
  rcases hcases with rfl | rfl | rfl | rfl | rfl | rfl | rfl | rfl | rfl | rfl | rfl | rfl | rfl | rfl | rfl | rfl
  · obtain ⟨val, err, t1, t2, sx, sy, hg⟩ := D.open_ m t hG hm1
    refine act_pens hF 1 A B (by decide) _ (fun W hW => ?_) h
    refine (lawPens_open hF A B val err sx sy hW).mono ?_
    rintro e w' ⟨rfl, h'⟩
    exact ⟨rfl, ActPost.of D hg (by omega) h'⟩
  · obtain ⟨err, t1, t2, sx, sy, hg⟩ := D.resend m t A hG hm1 hA
    refine act_pens hF 2 A B (by decide) _ (fun W hW => ?_) h
    refine (lawPens_resend hF A B err sx sy hW).mono ?_
    rintro e w' ⟨rfl, h'⟩
    exact ⟨rfl, ActPost.of D hg (by omega) h'⟩
  · obtain ⟨val, err, t1, t2, sx, sy, hg⟩ := D.append (by simpa [fitsOf] using hfit) m t A B hG hm1 hA hB
    refine act_pens hF 3 A B (by decide) _ (fun W hW => ?_) h
    refine (lawPens_append hF A B val err sx sy hW).mono ?_
    rintro e w' ⟨rfl, h'⟩
    exact ⟨rfl, ActPost.of D hg (by omega) h'⟩
  · obtain ⟨err, t1, t2, sx, sy, hg⟩ := D.sync (by simpa [fitsOf] using hfit) m t A hG hm1 hA
    refine act_stores hF 4 A B (by decide) _ (fun W hW => ?_) h
    refine (lawStores_sync hF A B err sx sy hW).mono ?_
    rintro e w' ⟨rfl, h'⟩
    exact ⟨rfl, ActPost.of D hg (by omega) h'⟩
  · obtain ⟨err, t1, t2, sx, sy, hg⟩ := D.gossip (by simpa [fitsOf] using hfit) m t A B hG hm1 hA hB
    refine act_stores hF 5 A B (by decide) _ (fun W hW => ?_) h
    refine (lawStores_gossip hF A B err sx sy hW).mono ?_
    rintro e w' ⟨rfl, h'⟩
    exact ⟨rfl, ActPost.of D hg (by omega) h'⟩
  · obtain ⟨err, t1, t2, sx, sy, hg⟩ := D.crash (by simpa [fitsOf] using hfit) m t A hG hm1 hA
    refine act_stores hF 6 A B (by decide) _ (fun W hW => ?_) h
    refine (lawStores_crash hF A B err sx sy hW).mono ?_
    rintro e w' ⟨rfl, h'⟩
    exact ⟨rfl, ActPost.of D hg (by omega) h'⟩
  · obtain ⟨err, t1, t2, sx, sy, hg⟩ := D.restart (by simpa [fitsOf] using hfit) m t A hG hm1 hA
    refine act_stores hF 7 A B (by decide) _ (fun W hW => ?_) h
    refine (lawStores_restart hF A B err sx sy hW).mono ?_
    rintro e w' ⟨rfl, h'⟩
    exact ⟨rfl, ActPost.of D hg (by omega) h'⟩
  · obtain ⟨val, err, t1, t2, sx, sy, hg⟩ := D.read (by simpa [fitsOf] using hfit) m t A B hG hm1 hA hB
    refine act_pens hF 8 A B (by decide) _ (fun W hW => ?_) h
    refine (lawPens_read hF A B val err sx sy hW).mono ?_
    rintro e w' ⟨rfl, h'⟩
    exact ⟨rfl, ActPost.of D hg (by omega) h'⟩
  · obtain ⟨err, t1, t2, sx, sy, hg⟩ := D.deliver m t (spokenOf A (fl t)) hG hm1 hsp
    refine act_net hF 9 A B (by decide) _ (fun W hW => ?_) h
    refine (lawNet_deliver hF A B hS hA.1 hA.2 hfl err sx sy hW).mono ?_
    rintro e w' ⟨rfl, h'⟩
    exact ⟨rfl, ActPost.of D hg (by omega) h'⟩
  · obtain ⟨err, t1, t2, sx, sy, hg⟩ := D.drop m t (spokenOf A (fl t)) hG hm1 hsp
    refine act_net hF 10 A B (by decide) _ (fun W hW => ?_) h
    refine (lawNet_drop hF A B hS hA.1 hA.2 hfl err sx sy hW).mono ?_
    rintro e w' ⟨rfl, h'⟩
    exact ⟨rfl, ActPost.of D hg (by omega) h'⟩
  · obtain ⟨err, t1, t2, sx, sy, hg⟩ := D.copy m t (spokenOf A (fl t)) hG hm1 hsp
    refine act_net hF 11 A B (by decide) _ (fun W hW => ?_) h
    refine (lawNet_copy hF A B hS hA.1 hA.2 hfl err sx sy hW).mono ?_
    rintro e w' ⟨rfl, h'⟩
    exact ⟨rfl, ActPost.of D hg (by omega) h'⟩
  · obtain ⟨f, h0, h1, h2⟩ := D.many m hG 60 hm
    refine act_net hF 12 A B (by decide) _ (fun W hW => ?_) h
    refine (lawNet_arrive f fl hF A B (fun j hj => D.sides (m + j) (f j) (h1 j hj) (by omega)) hA.1 hA.2 (by rw [h0]; exact hfl) h2 (by rw [h0]; exact hW)).mono ?_
    rintro e w' ⟨rfl, j, hj, h'⟩
    exact ⟨rfl, ActPost.of D (h1 j hj) (by omega) h'⟩
  · refine act_net hF 13 A B (by decide) _ (fun W hW => ?_) h
    refine (lawNet_flight hF A B hS hA.1 hA.2 hfl hW).mono ?_
    rintro e w' ⟨rfl, h'⟩
    exact ⟨rfl, ActPost.of D hG (by omega) h'⟩
  · refine act_net hF 14 A B (by decide) _ (fun W hW => ?_) h
    refine (lawNet_message hF A B hS hA.1 hA.2 hfl hC hI hW).mono ?_
    rintro e w' ⟨rfl, h'⟩
    exact ⟨rfl, t, _, _, _, D.mono _ _ _ hG (by omega), Nat.le_refl _, by omega, Nat.le_refl _, h'⟩
  · refine act_stores hF 15 A B (by decide) _ (fun W hW => ?_) h
    refine (lawStores_segment hF A B hS hC hR hW).mono ?_
    rintro e w' ⟨rfl, h'⟩
    exact ⟨rfl, t, _, _, _, D.mono _ _ _ hG (by omega), Nat.le_refl _, Nat.le_refl _, by omega, h'⟩
  · refine act_pens hF 16 A B (by decide) _ (fun W hW => ?_) h
    refine (lawPens_writer hF A B hS hW).mono ?_
    rintro e w' ⟨rfl, h'⟩
    exact ⟨rfl, ActPost.of D hG (by omega) h'⟩
end
end Go.Proofs.YtfpbkghcjaonlaaGreat

/-
  sixfoldlaw: plays.
-/
namespace Go.Proofs.YtfpbkghcjaonlaaGreat
open Go.RowKit

/-- A script in memory. -/
def ScriptIs (w : World) (sa : Option Addr) (n : Nat) : Prop :=
  ∀ i, i < n → ∃ (g o : Nat) (K A B : Int), sa = some ⟨g, o, none⟩ ∧ g < w.heap.size ∧ w.cell? ⟨g, o + i * 3, none⟩ = some (.int .i64 K) ∧ w.cell? ⟨g, o + i * 3 + 1, none⟩ = some (.int .i64 A) ∧ w.cell? ⟨g, o + i * 3 + 2, none⟩ = some (.int .i64 B) ∧ i64R A ∧ i64R B

theorem ScriptIs.below {w w' : World} {sa : Option Addr} {n : Nat} (h : ScriptIs w sa n) (hb : Below w.heap.size w w') : ScriptIs w' sa n := by
  intro i hi
  obtain ⟨g, o, K, A, B, h1, h2, h3, h4, h5, h6⟩ := h i hi
  have hs := hb.size
  exact ⟨g, o, K, A, B, h1, by omega, (hb.cell (p := ⟨g, o + i * 3, none⟩) h2).trans h3, (hb.cell (p := ⟨g, o + i * 3 + 1, none⟩) h2).trans h4, (hb.cell (p := ⟨g, o + i * 3 + 2, none⟩) h2).trans h5, h6⟩

/-- Where plays stands, after j acts. -/
def PlaySt {T : Type} (R : T → (Nat → Nat) → World → Prop) (G : Nat → T → Prop) (k1 : Nat → Nat) (w1 wr : World) (g px py j : Nat) : Prop :=
  ∃ t nC nR nI, G (60 * j) t ∧ nC ≤ 4 * j ∧ nR ≤ 8 * j ∧ nI ≤ 4 * j ∧ LSt R t k1 w1 wr g px py nC nR nI []

set_option maxRecDepth 3000 in
set_option maxHeartbeats 8000000 in
theorem plays_good {T : Type} (Rf : Nat → Nat → T → (Nat → Nat) → World → Prop) (G : Nat → T → Prop) (fl : T → Nat) (p : Nat) (hp : p = 0 ∨ p = 1 ∨ p = 3) (t0 : T) (w : World) (a b : Int) (h1 : ¬ a < 1) (h2 : ¬ 8 < a) (h3 : ¬ b < 1) (h4 : ¬ 200 < b)
    (hnew : ∀ px py k w, NewQ a b px py k w → Rf px py t0 k w) (hD : ∀ px py, Duet (Rf px py) px py G fl p) (hG : G 0 t0) (sa : Option Addr) (n cap : Nat) (hn : n ≤ 1048576) (hs : ScriptIs w sa n) :
    Calls Tryz.prog 8 #[.agg #[.int .i64 a, .int .i64 b], .slice sa n cap, .int .i64 p] w fun e w' => e = .returned (.bool true) ∧ Below w.heap.size w w' := by
  have HM := hide (fun W => made_good W a b h1 h2 h3 h4)
  have hbA := (Below.refl w.heap.size w).alloc (Nat.le_refl _) (Obj.cells #[.int .i64 a, .int .i64 b] 23)
  have HSc := hide (hs.below hbA)
  have HD := hide hD
  have HNew := hide hnew
  have HFit := hide (fun W K A B => fits_any W K A B p hp)
  have HP := hide hp
  clear h1 h2 h3 h4 hs hD hnew hp
  go_enter Tryz.func8, Tryz.ntmps8
  go_wp2_with fail
  refine (HM.out _).mono ?_
  rintro e1 w1 ⟨g, px, py, k1, rfl, ev1, hq, hL, hc⟩
  have hF := (HD.out px py).fam
  have H0 : Hid (PlaySt (Rf px py) G k1 w1 w1 g px py 0) := hide ⟨t0, 0, 0, 0, hG, by omega, by omega, by omega, k1, Evo.refl _ _ _, HNew.out _ _ _ _ hq, hL, hc, by simp⟩
  have HEv := hide ev1
  clear hq hL hc HM ev1
  go_wp2_with fail
  go_loopw [9] (fun i wr => ∃ j : Nat, j ≤ n ∧ i = .int .i64 j ∧ Hid (PlaySt (Rf px py) G k1 w1 wr g px py j)) (fun i _ => n - (intOf i).toNat)
  case atStart => exact ⟨0, by omega, rfl, H0⟩
  case round =>
    obtain ⟨j, hj, rfl, hst⟩ := hrel
    obtain ⟨t, nC, nR, nI, hg, c1, c2, c3, hl⟩ := hst.out
    have hBr : Below (w.alloc (Obj.cells #[.int .i64 a, .int .i64 b] 23)).heap.size (w.alloc (Obj.cells #[.int .i64 a, .int .i64 b] 23)) wr := by
      obtain ⟨k2, ev2, _⟩ := hl
      exact below_of_ours (HEv.out.trans (ev2.mono (fun c h => by unfold cDuo at h; unfold cOurs; omega)))
    by_cases hlt : j < n
    · obtain ⟨sg, so, K, A, B, rfl, hsg, s0, s1, s2, hA, hB⟩ := HSc.out.below hBr j hlt
      have HFt := hide (fits_any wr K A B p HP.out)
      have hgl : g < wr.heap.size := hl.cells.2.2
      cases hf : fitsOf K p
      · rw [hf] at HFt
        clear hf
        go_wp2_with fail
        refine HFt.out.mono ?_
        rintro e2 w2 ⟨rfl, hb2⟩
        go_wp2_with fail
        go_roundw
        case rel => exact ⟨j + 1, by omega, by go_num, hide ⟨t, nC, nR, nI, (HD.out px py).mono _ _ _ hg (by omega), by omega, by omega, by omega, hl.below hF hb2⟩⟩
        case measure => simp [intOf]; omega
      · rw [hf] at HFt
        have HAct : Hid (∀ W, Below wr.heap.size wr W → Calls Tryz.prog 10 #[.pointer (some ⟨g, 0, none⟩), .agg #[.int .i64 K, .int .i64 A, .int .i64 B]] W fun e w' => e = .returned (.bool true) ∧ ActPost (Rf px py) G (60 * j) k1 w1 g px py nC nR nI [] w') := hide fun W hW =>
          act_any (HD.out px py) (60 * j) hg (by unfold LIM; omega) K A B hA hB hf (by omega) (by omega) (by omega) (hl.below hF hW)
        clear hf
        go_wp2_with fail
        refine HFt.out.mono ?_
        rintro e2 w2 ⟨rfl, hb2⟩
        have hs2 := hb2.size
        have u0 := (hb2.cell (p := ⟨sg, so + j * 3, none⟩) hsg).trans s0
        have u1 := (hb2.cell (p := ⟨sg, so + j * 3 + 1, none⟩) hsg).trans s1
        have u2 := (hb2.cell (p := ⟨sg, so + j * 3 + 2, none⟩) hsg).trans s2
        have hsg2 : sg < w2.heap.size := by omega
        go_wp2_with fail
        refine (HAct.out _ hb2).mono ?_
        rintro e3 w3 ⟨rfl, t', nC', nR', nI', hg', d1, d2, d3, hl'⟩
        have HLk := hide (hl'.looks hF (by omega) (by omega) (by omega))
        clear hl'
        go_wp2_with fail
        refine HLk.out.mono ?_
        rintro e4 w4 ⟨rfl, hl4⟩
        have H4 := hide hl4
        clear hl4
        go_wp2_with fail
        go_roundw
        case rel => exact ⟨j + 1, by omega, by go_num, hide ⟨t', nC', nR', nI', (HD.out px py).mono _ _ _ hg' (by omega), by omega, by omega, by omega, H4.out⟩⟩
        case measure => simp [intOf]; omega
    · have hje : j = n := by omega
      have hd : decide ((j : Int) < (n : Int)) = false := by simp; omega
      obtain ⟨k2, ev2, hr, hL, hc, -⟩ := hl
      have hfl := (HD.out px py).flle _ t hg
      have HLast := hide (last_any (fl := fl t) (Rf px py t) (fun k k' w w' hq ev => hF.stay _ _ _ _ _ hq ev) (fun k w hq => ((HD.out px py).sides _ t hg (by unfold LIM; omega) k w hq).sides hfl) hfl hr hL hc (by omega) (by omega) (by omega))
      clear hst hje hr hL hc
      go_wp2_with fail
      refine HLast.out.mono ?_
      rintro e2 w2 ⟨rfl, k3, ev3, _⟩
      go_wp2_with fail
      go_ret
      have evA := HEv.out.trans ((ev2.mono (fun c h => by unfold cDuo at h; unfold cOurs; omega)).trans (ev3.mono (fun c h => by unfold cLaw at h; unfold cOurs; omega)))
      exact ⟨rfl, hbA.trans ((below_of_ours evA).mono (by simp))⟩

set_option maxHeartbeats 2000000 in
theorem plays_bad (w : World) (a b : Int) (h : a < 1 ∨ 8 < a ∨ b < 1 ∨ 200 < b) (sa : Option Addr) (n cap : Nat) (p : Int) :
    Calls Tryz.prog 8 #[.agg #[.int .i64 a, .int .i64 b], .slice sa n cap, .int .i64 p] w fun e w' => e = .returned (.bool true) ∧ Below w.heap.size w w' := by
  have HM := hide (fun W => made_bad W a b h)
  clear h
  go_enter Tryz.func8, Tryz.ntmps8
  go_wp2_with fail
  refine (HM.out _).mono ?_
  rintro e1 w1 ⟨rfl, hb1⟩
  go_wp2_with fail
  go_ret
  exact ⟨rfl, ((Below.refl _ _).alloc (Nat.le_refl _) _).trans (hb1.mono (by simp))⟩
end Go.Proofs.YtfpbkghcjaonlaaGreat

/-
  Both sides: what is bounded.
-/
namespace Go.Proofs.YtfpbkghcjaonlaaGreat.Sim
open Go.RowKit

theorem Good.yok {m : Nat} {r : RVol} (h : Good m r) (hm : m ≤ 70000000) : YOk r := by
  refine ⟨by have := h.sz.net; omega, fun p hp => (h.inv.net p hp).ok h.inv, fun g hg => ?_, fun p hp => ?_⟩
  · have s := h.sz.seg g hg
    have a := s.e1
    have b := s.l1
    have c := s.en
    exact ⟨s.e0, by omega, s.l0, by omega, fun l hl => Nat.le_trans (s.lk l hl) (by decide), by omega⟩
  · obtain ⟨i, hi, rfl⟩ := List.getElem_of_mem hp
    have hpi := h.inv.pens i _ (List.getElem?_eq_getElem hi)
    have a := h.sz.pen _ hp
    have b := hpi.n40
    have c := hpi.f4
    exact ⟨fun q hq => ⟨by have := ((hpi.fm q hq).1).len9 h.inv; omega, by have := (hpi.fm q hq).2.1; omega⟩, by omega, by omega, by omega⟩

theorem xpen_ok {r : RVol} (h : Inv r) {i : Nat} {p : RPen} (hi : r.pens[i]? = some p) : XWOk (xpen ((i : Int) + 1) p) := by
  have hp := h.pens i p hi
  have hl := (List.getElem?_eq_some_iff.1 hi).1
  have h9 := h.p9
  have hb := hp.bounds
  have h40 := hp.n40
  refine ⟨?_, ?_, ?_, ?_, hb.1, by have := hb.2.1; show p.stands.base ≤ _; omega, ?_⟩
  · unfold xpen
    simp only
    split
    · simp
    · rename_i hc
      have := hp.len (by omega)
      omega
  · unfold xpen
    simp only
    split
    · simp
    · omega
  · unfold xpen
    simp only
    have := hp.f4
    split
    · simp
    · simp; omega
  · intro n hn
    unfold xpen at hn
    simp only at hn
    split at hn
    · simp at hn
    · obtain ⟨q, hq, rfl⟩ := List.mem_map.1 hn
      have hf := hp.fm q hq
      exact ⟨by have := hf.1.len9 h; simp only [note3]; omega, by have := hf.2.1; simp only [note3]; omega⟩
  · intro n hn
    have hn' : n ∈ notedL p.status := hn
    unfold notedL at hn'
    obtain ⟨s, _, hs⟩ := List.mem_map.1 hn'
    rw [← hs]
    refine ⟨notedN_nonneg _ _, Int.le_trans (notedN_le p.status _ 40 (by decide) (fun q hq => ?_)) (by decide)⟩
    have := (hp.sm q hq).2.1
    omega

theorem Inv.xok {r : RVol} (h : Inv r) : XOk (xvol r) := by
  have hf := h.fl
  have hy := h.fly
  refine ⟨hf.2, ?_, fun m hm => (h.net _ (liveOf_mem hm)).ok h, fun s hs => ?_, fun p hp => ?_⟩
  · show (liveOf r.net).length ≤ 200
    rw [liveOf_len]; omega
  · obtain ⟨g, hg, rfl⟩ := List.mem_map.1 hs
    have := (h.segs g hg).ct.len9 h
    show g.cuts.length ≤ 1000
    omega
  · obtain ⟨i, hi, rfl⟩ := List.getElem_of_mem hp
    have hil : i < r.pens.length := by simpa [xvol] using hi
    have : (xvol r).wrs[i] = xpen ((i : Int) + 1) r.pens[i] := by simp [xvol]
    rw [this]
    exact xpen_ok h (List.getElem?_eq_getElem hil)

theorem XWr.arrive_out (x : XWr) (m : Msg) : (x.arrive m).2 = [] ∨ (x.arrive m).2 = (x.arrive m).1.due := by
  unfold XWr.arrive
  split
  · exact .inl rfl
  · split
    · unfold XWr.hearFenced
      split
      · exact .inl rfl
      · simp only
        split
        · exact .inl rfl
        · exact .inr rfl
    · split
      · exact .inl rfl
      · split <;> exact .inl rfl
theorem XSeg.arrive_ok {s : XSeg} {m : Msg} (hc : s.cuts.length ≤ 1000) (hp : s.places.length = 40) {m' : Msg} (h : (s.arrive m).2 = some m') : MsgOk m' := by
  have hr : MsgOk (s.refusal m) := ⟨by simp [XSeg.refusal], by simp [XSeg.refusal]⟩
  have hst : ∀ (t : XSeg) a b, MsgOk (t.status a b) := fun t a b => ⟨by simp [XSeg.status], by simp [XSeg.status]⟩
  unfold XSeg.arrive at h
  split at h
  · simp at h
  · split at h
    · rw [← Option.some.inj h]
      unfold XSeg.fence
      split
      · exact hr
      · refine ⟨hc, ?_⟩
        simp only [xmarks, List.length_map]
        have := List.takeWhile_prefix (p := fun p : Int × Int × Int => p.1 == 2) (l := s.places)
        have := this.length_le
        omega
    · split at h
      · rw [← Option.some.inj h]
        unfold XSeg.cut
        split
        · exact hr
        · exact hst _ _ _
      · split at h
        · unfold XSeg.write at h
          split at h
          · rw [← Option.some.inj h]; exact hr
          · split at h
            · simp at h
            · split at h
              · rw [← Option.some.inj h]; exact hst _ _ _
              · simp at h
        · split at h
          · simp only at h
            unfold XSeg.give at h
            split at h
            · rw [← Option.some.inj h]; exact ⟨by simp, by simp⟩
            · simp at h
          · split at h <;> simp at h

theorem send_wrs (x : XVol) (m : Msg) : (x.send m).wrs = x.wrs ∧ (x.send m).segs = x.segs := by unfold XVol.send; split <;> exact ⟨rfl, rfl⟩
theorem sendAll_wrs (x : XVol) (l : List Msg) : (x.sendAll l).wrs = x.wrs := by
  unfold XVol.sendAll
  induction l generalizing x with
  | nil => rfl
  | cons a r ih => rw [List.foldl_cons, ih, (send_wrs x a).1]
theorem sendO_segs (x : XVol) (o : Option Msg) : (x.sendO o).segs = x.segs := by
  cases o with
  | none => rfl
  | some m => exact (send_wrs x m).2

/-- A message arrives: the program's answer. -/
theorem xdeliver_any {m : Nat} {r : RVol} (h : Good m r) {k : Nat → Nat} {w : World} {px : Nat} (hx : XVolIs k w px (xvol r)) (n : Int) :
    Calls Tryz.prog 95 #[.pointer (some ⟨px, 0, none⟩), .int .i64 n] w fun e w' => e = .returned (.int .i64 ((xvol r).deliver n).2) ∧ ∃ k', Evo k k' cXS w w' ∧ XVolIs k' w' px ((xvol r).deliver n).1 := by
  by_cases hn : 0 ≤ n ∧ n < ((xvol r).msgs.length : Int)
  · obtain ⟨i, rfl⟩ := Int.eq_ofNat_of_zero_le hn.1
    have hi : i < (xvol r).msgs.length := by omega
    have hlk : (xvol r).look (i : Int) = some (xvol r).msgs[i] := by unfold XVol.look; rw [if_neg (by omega), Int.toNat_natCast, List.getElem?_eq_getElem hi]
    have hdl : (xvol r).deliver (i : Int) = (if (xvol r).msgs[i].kind = 2 ∨ (xvol r).msgs[i].kind = 4 ∨ (xvol r).msgs[i].kind = 5 then ((xvol r).taken (i : Int)).atWr (xvol r).msgs[i] else ((xvol r).taken (i : Int)).atSeg (xvol r).msgs[i], 0) := by unfold XVol.deliver; rw [hlk]
    have hpl := xvol_look r (i : Int)
    rw [hlk] at hpl
    cases hp : placeE r.net (i : Int) with
    | none => rw [hp] at hpl; simp at hpl
    | some j =>
      rw [hp] at hpl
      simp only [Option.bind_some] at hpl
      cases hq : r.net[j]? with
      | none => rw [hq] at hpl; simp at hpl
      | some q =>
        rw [hq] at hpl
        have hmq : (xvol r).msgs[i] = q.1 := by simpa using hpl
        have hmi := h.inv.net q (List.mem_of_getElem? hq)
        have hI := h.inv.goneV j
        have hmi' : MsgInv (r.goneV j).pens q.1 := hmi
        have htk : (xvol r).taken (i : Int) = xvol (r.goneV j) := (xvol_gone r _ j hp).symm
        have hok := h.inv.xok
        have hokg := hI.xok
        have hmok := hmi.ok h.inv
        obtain ⟨hsa, hIa⟩ := sim_arrives hI q.1 hmi'
        have hoka := hIa.xok
        rw [hdl]
        dsimp only
        refine xdeliver_in hx hok i hi _ ?_ ?_
        · intro hk k1 w1 z0 z1 z2 y0 y1 y2 hv hc hm
          rw [if_pos hk, hmq]
          rw [hmq] at hk hc hm
          rw [htk] at hv ⊢
          have ht := hmi.to_
          unfold MsgTo at ht
          rw [if_pos hk] at ht
          have hwl : (xvol (r.goneV j)).wrs.length = r.pens.length := by simp [xvol, RVol.goneV]
          obtain ⟨a, ha⟩ : ∃ a : Nat, q.1.to_ = (a : Int) + 1 := ⟨(q.1.to_ - 1).toNat, by omega⟩
          have hal : a < (xvol (r.goneV j)).wrs.length := by omega
          have hal' : a < (r.goneV j).pens.length := by show a < r.pens.length; omega
          have hwa : (xvol (r.goneV j)).wrs[a] = xpen ((a : Int) + 1) (r.goneV j).pens[a] := by simp [xvol]
          have hat : (xvol (r.goneV j)).atWr q.1 = ((xvol (r.goneV j)).setWr a ((xvol (r.goneV j)).wrs[a].arrive q.1).1).sendAll ((xvol (r.goneV j)).wrs[a].arrive q.1).2 := by
            unfold XVol.atWr
            rw [if_neg (by omega), show q.1.to_.toNat - 1 = a from by omega, List.getElem?_eq_getElem hal]
          rw [if_pos hk, hat] at hsa
          rw [hsa] at hoka
          have hok2 : XWOk ((xvol (r.goneV j)).wrs[a].arrive q.1).1 := hoka.wk _ (by
            rw [sendAll_wrs]
            exact List.mem_set hal _)
          refine xatWr_in hv hokg a hal q.1 ha z0 y0 z1 z2 y1 y2 hc hm hmok (fun hph => ?_) hok2 (fun m' hm' => ?_) ?_
          · have hpi := hI.pens a _ (List.getElem?_eq_getElem hal')
            rw [hwa] at hph ⊢
            rcases hpi.cases with ⟨_, h5⟩ | ⟨ho, h4, h5⟩ | ⟨_, _, _, h5⟩ | ⟨_, _, _, h5⟩
            · have : (xpen ((a : Int) + 1) (r.goneV j).pens[a]).phase = (r.goneV j).pens[a].stands.phase := rfl
              rw [this, h5] at hph; simp at hph
            · unfold xpen
              simp only
              split
              · simp
              · simp; omega
            · have : (xpen ((a : Int) + 1) (r.goneV j).pens[a]).phase = (r.goneV j).pens[a].stands.phase := rfl
              rw [this, h5] at hph; simp at hph
            · have : (xpen ((a : Int) + 1) (r.goneV j).pens[a]).phase = (r.goneV j).pens[a].stands.phase := rfl
              rw [this, h5] at hph; simp at hph
          · rcases XWr.arrive_out (xvol (r.goneV j)).wrs[a] q.1 with h0 | h0
            · rw [h0] at hm'; simp at hm'
            · rw [h0] at hm'; exact due_ok hok2 m' hm'
          · rcases XWr.arrive_out (xvol (r.goneV j)).wrs[a] q.1 with h0 | h0
            · rw [h0]; simp
            · rw [h0]; exact Nat.le_trans (due_len _) (by decide)
        · intro hk k1 w1 z0 z1 z2 y0 y1 y2 hv hc hm
          rw [if_neg hk, hmq]
          rw [hmq] at hk hc hm
          rw [htk] at hv ⊢
          have ht := hmi.to_
          unfold MsgTo at ht
          rw [if_neg hk] at ht
          obtain ⟨a, ha⟩ : ∃ a : Nat, q.1.to_ = (a : Int) := ⟨q.1.to_.toNat, by omega⟩
          have hsl : (xvol (r.goneV j)).segs.length = 6 := by have := hI.s6; simpa [xvol] using this
          have hal : a < (xvol (r.goneV j)).segs.length := by omega
          have hat : (xvol (r.goneV j)).atSeg q.1 = ((xvol (r.goneV j)).setSeg a ((xvol (r.goneV j)).segs[a].arrive q.1).1).sendO ((xvol (r.goneV j)).segs[a].arrive q.1).2 := by
            unfold XVol.atSeg
            rw [if_neg (by omega), show q.1.to_.toNat = a from by omega, List.getElem?_eq_getElem hal]
          rw [if_neg hk, hat] at hsa
          rw [hsa] at hoka
          have hsk := hoka.sk
          rw [sendO_segs] at hsk
          have hpl40 : (xvol (r.goneV j)).segs[a].places.length = 40 := by
            have : (xvol (r.goneV j)).segs[a] = xseg ((r.goneV j).segs[a]'(by have := hI.s6; omega)) := by simp [xvol]
            rw [this]; exact xseg_len _
          exact xatSeg_in hv hokg a (by omega) hal q.1 ha z0 y0 z1 z2 y1 y2 hc hmok ⟨hokg.rm, hokg.ml, hokg.mo, hsk, hokg.wk⟩ (fun m' hm' => XSeg.arrive_ok (hokg.sk _ (List.getElem_mem hal)) hpl40 hm')
  · exact xdeliver_out hx n hn

theorem xappend_any {m : Nat} {r : RVol} (h : Good m r) {k : Nat → Nat} {w : World} {px : Nat} (hx : XVolIs k w px (xvol r)) (n v : Int) :
    Calls Tryz.prog 32 #[.pointer (some ⟨px, 0, none⟩), .int .i64 n, .int .i64 v] w fun e w' => e = .returned (.tuple #[.int .i64 ((xvol r).append n v).2.1, .int .i64 ((xvol r).append n v).2.2]) ∧ ∃ k', Evo k k' cXS w w' ∧ XVolIs k' w' px ((xvol r).append n v).1 := by
  by_cases hn : 1 ≤ n ∧ n ≤ ((xvol r).wrs.length : Int)
  · obtain ⟨i, hi⟩ : ∃ i : Nat, n = (i : Int) + 1 := ⟨(n - 1).toNat, by omega⟩
    subst hi
    have hil : i < (xvol r).wrs.length := by omega
    have hil' : i < r.pens.length := by simpa [xvol] using hil
    have hwa : (xvol r).wrs[i] = xpen ((i : Int) + 1) r.pens[i] := by simp [xvol]
    have hpi := h.inv.pens i _ (List.getElem?_eq_getElem hil')
    have hb := hpi.bounds
    have h40 := hpi.n40
    have hwi := h.inv.wi
    refine xappend_in hx h.inv.xok i hil v (by show 0 ≤ r.wi; omega) hwi.2 ?_ ?_ ?_ ?_
    · rw [hwa]; exact hb.2.2.1
    · rw [hwa]; show r.pens[i].stands.dur ≤ _; omega
    · rw [hwa]; exact hb.2.2.2.2
    · rw [hwa]
      unfold xpen
      simp only
      split
      · simp
      · omega
  · exact xappend_out hx n v hn
end Go.Proofs.YtfpbkghcjaonlaaGreat.Sim

/-
  Both sides: what is looked at.
-/
namespace Go.Proofs.YtfpbkghcjaonlaaGreat.Sim
open Go.RowKit

theorem map_fmap {A B C : Type} (f : A → Option B) (g : B → C) : ∀ l : List A, (l.filterMap f).map g = l.filterMap fun a => (f a).map g
  | [] => rfl
  | a :: r => by
    rw [List.filterMap_cons, List.filterMap_cons]
    cases f a with
    | none => exact map_fmap f g r
    | some b => simp only [List.map_cons, Option.map_some]; rw [map_fmap f g r]

theorem recs_eq (g : RSeg) (kk : Bool) : (xrecsUp (xseg g).places (if kk then 2 else 1) 40).map recRow = (recsUp g.entries kk 40).map recRow := by
  unfold xrecsUp recsUp
  rw [map_fmap, map_fmap]
  apply fmap_congr
  intro i hi
  have hi40 : i < 40 := by simpa using hi
  rw [xseg_get g i hi40]
  have he := entIdx_find g.entries ((i : Int) + 1)
  have e2 : ((entIdx g.entries ((i : Int) + 1)).bind fun j => g.entries[j]?.bind fun e => if e.kept == kk then some e else none) = (g.entries.find? (entHit ((i : Int) + 1))).bind fun e => if e.kept == kk then some e else none := by
    rw [← he]
    cases entIdx g.entries ((i : Int) + 1) <;> rfl
  rw [e2]
  simp only [Option.bind_some]
  unfold plOf
  cases hf : g.entries.find? (entHit ((i : Int) + 1)) with
  | none => cases kk <;> rfl
  | some e =>
    have hp := List.find?_some hf
    unfold entHit at hp
    simp at hp
    simp only [Option.bind_some]
    cases hk : e.kept <;> cases kk <;> simp [recRow, hp.2]
theorem recsUp_len40 (l : List Ent) (kk : Bool) : (recsUp l kk 40).length ≤ 40 := by
  unfold recsUp
  exact Nat.le_trans (List.length_filterMap_le _ _) (by simp)

/-- Both sides in memory. -/
def Both (px py : Nat) (t : XVol × RVol) (k : Nat → Nat) (w : World) : Prop := XVolIs k w px t.1 ∧ YVol k w py t.2
def GoodT (m : Nat) (t : XVol × RVol) : Prop := t.1 = xvol t.2 ∧ Good m t.2
def flT (t : XVol × RVol) : Nat := (liveOf t.2.net).length

theorem both_sides {px py m : Nat} {t : XVol × RVol} (hG : GoodT m t) (hm : m ≤ 70000000) {k : Nat → Nat} {w : World} (hB : Both px py t k w) : SidesA px py w (flT t) := by
  obtain ⟨x, r⟩ := t
  obtain ⟨hxr, h⟩ := hG
  obtain ⟨hx, hy⟩ := hB
  dsimp only at hxr hx hy h
  subst hxr
  have hyok := h.yok hm
  have hxok := h.inv.xok
  have hX : ∀ W, Below w.heap.size w W → XVolIs k W px (xvol r) := fun W hW => hx.evo (Evo.of_below (C := noC) hW) (noC_not _) (fun c _ _ => noC_not c)
  have hY : ∀ W, Below w.heap.size w W → YVol k W py r := fun W hW => hy.evo (Evo.of_below (C := noC) hW) (noC_not _) (fun c _ _ => noC_not c)
  have h6 := h.inv.s6
  refine ⟨fun n => ?_, fun n => ?_, fun n hn => ?_, ?_, ?_⟩
  · by_cases hn : 0 ≤ n ∧ n ≤ 5
    · obtain ⟨i, rfl⟩ := Int.eq_ofNat_of_zero_le hn.1
      have hi : i < 6 := by omega
      have hil : i < r.segs.length := by omega
      have hgi := h.inv.segs _ (List.getElem_mem hil)
      have hct := hgi.ct.len9 h.inv
      have hxs : ∀ hl : i < (xvol r).segs.length, (xvol r).segs[i] = xseg r.segs[i] := fun hl => by simp [xvol]
      refine ⟨⟨0, r.segs[i].up, r.segs[i].epoch, sclOf r.segs[i].entries, r.segs[i].cuts, recsUp r.segs[i].entries true 40, recsUp r.segs[i].entries false 40⟩, by simp only; omega, by have := recsUp_len40 r.segs[i].entries true; simp only; omega, by have := recsUp_len40 r.segs[i].entries false; simp only; omega, fun W hW => ?_, fun W hW => ?_⟩
      · obtain ⟨rr, c0, c1, c2, hl, hS, hC, _⟩ := seg_write (hX W hW) i hi
        rw [hxs hl] at hS hC
        refine (xsegment_in (k := k) i hi hS.at_ hC (by show r.segs[i].cuts.length ≤ _; omega)).mono ?_
        rintro e w' ⟨⟨v, rfl, vc, vk, vb, B1, B2, rfl, g1, g2, g3, g4, g5, g6, g7⟩, hb⟩
        have e1 := recs_eq r.segs[i] true
        have e2 := recs_eq r.segs[i] false
        simp only [if_true, Bool.false_eq_true, if_false] at e1 e2
        rw [e1] at g6
        rw [e2] at g7
        refine ⟨⟨_, rfl, vc, vk, vb, B1, B2, ?_, g1, g2, g3, g4, g5, g6, g7⟩, hb⟩
        rw [xscl_seg _ hgi.ents]; rfl
      · refine (refSegment_any (i : Int) (hY W hW) hyok).mono ?_
        rintro e w' ⟨⟨v, rfl, hv⟩, hb⟩
        have hs : segAt r.segs (i : Int) = some r.segs[i] := by
          unfold segAt
          rw [if_neg (by omega), Int.toNat_natCast, List.getElem?_eq_getElem hil]
        rw [hs] at hv
        obtain ⟨vc, vk, vb, rfl, q1, q2, q3⟩ := hv
        exact ⟨⟨_, rfl, vc, vk, vb, k, fun _ => 0, fun _ => 0, IM, 0, 0, rfl, Rows.below q1 hb, q2.colour (fun _ _ => rfl), q3.colour (fun _ _ => rfl)⟩, hb⟩
    · refine ⟨dOut, by decide, by decide, by decide, fun W hW => ?_, fun W hW => ?_⟩
      · refine (xsegment_no W px n (by omega)).mono ?_
        rintro e w' ⟨rfl, hb⟩
        exact ⟨⟨_, rfl, .slice none 0 0, .slice none 0 0, .slice none 0 0, W.heap.size, W.heap.size, rfl, Nat.le_refl _, Nat.le_refl _, by simp [Value.ownBlock], by simp [Value.ownBlock], Made.nil _ _ _ _, Made.nil _ _ _ _, Made.nil _ _ _ _⟩, hb⟩
      · refine (refSegment_any n (hY W hW) hyok).mono ?_
        rintro e w' ⟨⟨v, rfl, hv⟩, hb⟩
        have hs : segAt r.segs n = none := by
          unfold segAt
          split
          · rfl
          · exact List.getElem?_eq_none (by omega)
        rw [hs] at hv
        exact ⟨⟨_, rfl, .slice none 0 0, .slice none 0 0, .slice none 0 0, fun _ => 0, fun _ => 0, fun _ => 0, 0, 0, 0, hv, Rows.nil _ _ _ _ _, Rows.nil _ _ _ _ _, Rows.nil _ _ _ _ _⟩, hb⟩
  · have hwl : (xvol r).wrs.length = r.pens.length := by simp [xvol]
    by_cases hn : 1 ≤ n ∧ n ≤ (r.pens.length : Int)
    · obtain ⟨i, hi⟩ : ∃ i : Nat, n = (i : Int) + 1 := ⟨(n - 1).toNat, by omega⟩
      subst hi
      have hil : i < r.pens.length := by omega
      have hwa : ∀ hl : i < (xvol r).wrs.length, (xvol r).wrs[i] = xpen ((i : Int) + 1) r.pens[i] := fun hl => by simp [xvol]
      refine ⟨r.pens[i].stands, 0, ?_, fun W hW => ?_⟩
      · have hc := xwriter_in hx i (by omega)
        rw [hwa] at hc
        exact hc
      · refine (refWriter_any ((i : Int) + 1) (hY W hW) hyok).mono ?_
        rintro e w' ⟨rfl, hb⟩
        have hs : writerAt r.pens ((i : Int) + 1) = some r.pens[i] := by
          unfold writerAt
          rw [if_neg (by omega), show ((i : Int) + 1).toNat - 1 = i from by omega, List.getElem?_eq_getElem hil]
        rw [hs]
        exact ⟨rfl, hb⟩
    · refine ⟨⟨0, 0, 0, 0⟩, 3, ?_, fun W hW => ?_⟩
      · obtain ⟨a, cap, hc⟩ := wrs_cell hx
        exact xwriter_no w px n a _ cap hc (by omega)
      · refine (refWriter_any n (hY W hW) hyok).mono ?_
        rintro e w' ⟨rfl, hb⟩
        have hs : writerAt r.pens n = none := by
          unfold writerAt
          split
          · rfl
          · exact List.getElem?_eq_none (by omega)
        rw [hs]
        exact ⟨rfl, hb⟩
  · have hlen : r.net.length ≤ 4000000000 := hyok.nl
    have hma : messageAt r.net n = (xvol r).look n := by rw [messageAt_eq, xvol_look]
    by_cases hr : 0 ≤ n ∧ n < ((xvol r).msgs.length : Int)
    · obtain ⟨i, rfl⟩ := Int.eq_ofNat_of_zero_le hr.1
      have hi : i < (xvol r).msgs.length := by omega
      have hlk : (xvol r).look (i : Int) = some (xvol r).msgs[i] := by unfold XVol.look; rw [if_neg (by omega), Int.toNat_natCast, List.getElem?_eq_getElem hi]
      have hmk := hxok.mo _ (List.getElem_mem hi)
      refine ⟨0, (xvol r).msgs[i], by have := hmk.1; omega, hmk.2, fun W hW => xmessage_in (hX W hW) hxok i hi, fun W hW => ?_⟩
      obtain ⟨vS, vP, sb, pb, hN, _, _⟩ := (hY W hW).ex
      refine (refMessage_any (i : Int) hn hN hlen).mono ?_
      rintro e w' ⟨⟨v, rfl, hv⟩, hb⟩
      rw [hma, hlk] at hv
      obtain ⟨vc, vm, rfl, q1, q2⟩ := hv
      exact ⟨⟨_, rfl, vc, vm, k, k, IM, IM, rfl, Rows.below q1 hb, Rows.below q2 hb⟩, hb⟩
    · have hlk : (xvol r).look n = none := by
        unfold XVol.look
        split
        · rfl
        · exact List.getElem?_eq_none (by omega)
      refine ⟨12, m0, by decide, by decide, fun W hW => ?_, fun W hW => ?_⟩
      · obtain ⟨vM, vW, sr, wr, hBk, hM, _, _⟩ := (hX W hW).ex
        obtain ⟨a, cap, hv, _⟩ := msgs_cells hM
        subst hv
        refine (xmessage_no W px n a (xvol r).msgs.length cap (hBk.cell 2) (by omega)).mono ?_
        rintro e w' ⟨rfl, hb⟩
        exact ⟨⟨_, rfl, .slice none 0 0, .slice none 0 0, W.heap.size, rfl, Nat.le_refl _, by simp [Value.ownBlock], Made.nil _ _ _ _, Made.nil _ _ _ _⟩, hb⟩
      · obtain ⟨vS, vP, sb, pb, hN, _, _⟩ := (hY W hW).ex
        refine (refMessage_any n hn hN hlen).mono ?_
        rintro e w' ⟨⟨v, rfl, hv⟩, hb⟩
        rw [hma, hlk] at hv
        exact ⟨⟨_, rfl, .slice none 0 0, .slice none 0 0, fun _ => 0, fun _ => 0, 0, 0, hv, Rows.nil _ _ _ _ _, Rows.nil _ _ _ _ _⟩, hb⟩
  · obtain ⟨vM, vW, sr, wr, hBk, hM, _, _⟩ := hx.ex
    obtain ⟨a, cap, hv, _⟩ := msgs_cells hM
    subst hv
    exact xflight_any w px a _ cap (hBk.cell 2)
  · obtain ⟨vS, vP, sb, pb, ⟨vNet, rows, hBk, hN⟩, _, _⟩ := hy.ex
    have := flight_any hBk hN hyok.nl
    unfold flT
    rw [liveOf_len]
    exact this

theorem XVolIs.recol {k : Nat → Nat} {w : World} {px n : Nat} {x : XVol} (h : XVolIs k w px x) : XVolIs (reco n k) w px x := by
  obtain ⟨vM, vW, sr, wr, hB, hM, hS, hW⟩ := h.ex
  have l1 := hW.l1
  have l2 := hW.l2
  refine ⟨vM, vW, sr, wr, hB.recol (by decide), hM.recol (by decide), ⟨hS.l1, hS.l2, fun i a b => ?_⟩, ⟨hW.own.recol (by decide), l1, l2, fun i a b => ?_⟩⟩
  · obtain ⟨vc, p, q, r⟩ := hS.all i a b
    exact ⟨vc, p, q.recol, r⟩
  · have hw := hW.all i a b
    obtain ⟨vN, vC, vV, hr, ⟨rows, hR, hA⟩, hC, hV⟩ := hw.ex
    exact ⟨⟨vN, vC, vV, hr, ⟨rows, hR.recol (by unfold cWr; omega), hA.imp fun _ _ ⟨vc, vm, a, b, d⟩ => ⟨vc, vm, a, b.recol, d.recol⟩⟩, hC.recol, hV.recol (by unfold cWr; omega)⟩, hw.h6, hw.n6⟩

theorem both_fam (px py : Nat) : Fam (Both px py) :=
  ⟨fun t k k' w w' h ev => ⟨h.1.evo ev (by unfold cLaw IM; omega) (fun c _ _ => by unfold cLaw; omega), h.2.evo ev (by unfold cLaw IM; omega) (fun c _ _ => by unfold cLaw; omega)⟩, fun t n k w h => ⟨XVolIs.recol h.1, h.2.recol⟩⟩

/-- A call of the program, a call of the document. -/
theorem both_x {px py F : Nat} {args : Array Value} {ret : Value} {x x' : XVol} {r : RVol} (h : ∀ k w, XVolIs k w px x → Calls Tryz.prog F args w fun e w' => e = .returned ret ∧ ∃ k', Evo k k' cXS w w' ∧ XVolIs k' w' px x') : Step (Both px py) F args ret (x, r) (x', r) := fun k w hB => by
  refine (h k w hB.1).mono ?_
  rintro e w' ⟨rfl, k', ev, hv⟩
  exact ⟨rfl, k', ev.mono (fun c h => by unfold cXS at h; unfold cSide; omega), hv, hB.2.evo ev (by unfold cXS IM; omega) (fun c _ _ => by unfold cXS; omega)⟩
theorem both_y {px py F : Nat} {args : Array Value} {ret : Value} {x : XVol} {r r' : RVol} (h : ∀ k w, YVol k w py r → Calls Tryz.prog F args w fun e w' => e = .returned ret ∧ ∃ k', Evo k k' cRef w w' ∧ YVol k' w' py r') : Step (Both px py) F args ret (x, r) (x, r') := fun k w hB => by
  refine (h k w hB.2).mono ?_
  rintro e w' ⟨rfl, k', ev, hv⟩
  exact ⟨rfl, k', ev.mono (fun c h => by unfold cRef at h; unfold cSide; omega), hB.1.evo ev (by unfold cRef IM; omega) (fun c _ _ => by unfold cRef; omega), hv⟩
theorem xn_xs {P : World → Prop} {F : Nat} {args : Array Value} {ret : Value} {px : Nat} {x' : XVol} {k : Nat → Nat} {w : World} (_h : P w) (h : Calls Tryz.prog F args w fun e w' => e = .returned ret ∧ ∃ k', Evo k k' cXN w w' ∧ XVolIs k' w' px x') : Calls Tryz.prog F args w fun e w' => e = .returned ret ∧ ∃ k', Evo k k' cXS w w' ∧ XVolIs k' w' px x' := by
  refine h.mono ?_
  rintro e w' ⟨rfl, k', ev, hv⟩
  exact ⟨rfl, k', ev.mono (fun c h => by unfold cXN cX cXM at h; unfold cXS; omega), hv⟩
end Go.Proofs.YtfpbkghcjaonlaaGreat.Sim
