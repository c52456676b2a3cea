/-
  LAW: ShareEfficient.
-/
import Derived.Test.YtghkpmeonoadlaaM9
import Derived.Test.YtghkpmeonoadlaaB27
import Derived.Test.YtghkpmeonoadlaaE1
namespace Go.Tri
open Go.Proofs

theorem atMost_pure (p d q e : Int) (h1 : -4294967296 < p ∧ p < 4294967296) (h2 : 1 ≤ d ∧ d < 1073741824) (h3 : -4294967296 < q ∧ q < 4294967296) (h4 : 1 ≤ e ∧ e < 1073741824) : APure Try.prog 38 [pairV p d, pairV q e] (fun R => R = .bool (decide (p * e ≤ q * d))) := by
  refine APure_of (X := cx 16) (cx_ok 16) rfl (rs := [(.tmp 4, 4)]) Try.func38 (by decide) rfl rfl rfl (by simp [cx]) (nofr2 nofrP nofrP) ?_
  intro hlen
  have mb : ∀ x y : Int, -4294967296 < x ∧ x < 4294967296 → 1 ≤ y ∧ y < 1073741824 → -4611686018427387904 ≤ x * y ∧ x * y ≤ 4611686018427387904 := fun x y hx hy => by
    have a1 : x * y ≤ 4294967296 * y := Int.mul_le_mul_of_nonneg_right (by omega) (by omega)
    have a2 : -4294967296 * y ≤ x * y := Int.mul_le_mul_of_nonneg_right (by omega) (by omega)
    omega
  have m1 := mb p e h1 h4
  have m2 := mb q d h3 h2
  ((conv => whnf); repeat (refine stepK_in ?_; (repeat (first | refine seqQ_n ?_ | refine blockQ_n ?_ | refine awp_skip ?_ | refine awp_seq ?_ | refine awp_block ?_)); (conv => whnf)))
  refine ⟨(show InR (p * e) from inr (by omega)), ?_⟩
  ((conv => whnf); repeat (refine stepK_in ?_; (repeat (first | refine seqQ_n ?_ | refine blockQ_n ?_ | refine awp_skip ?_ | refine awp_seq ?_ | refine awp_block ?_)); (conv => whnf)))
  refine ⟨(show InR (q * d) from inr (by omega)), ?_⟩
  ((conv => whnf); repeat (refine stepK_in ?_; (repeat (first | refine seqQ_n ?_ | refine blockQ_n ?_ | refine awp_skip ?_ | refine awp_seq ?_ | refine awp_block ?_)); (conv => whnf)))
  exact ⟨trivial, rfl⟩
/-- A ratio in lowest terms: its numbers are small. -/
theorem rat_sm {p d : Int} (hd : 1 ≤ d ∧ d ≤ 10000000) (hp : 0 ≤ p ∧ p ≤ 100 * d) : (-4294967296 < p.tdiv (gR p d) ∧ p.tdiv (gR p d) < 4294967296) ∧ 1 ≤ d.tdiv (gR p d) ∧ d.tdiv (gR p d) < 1073741824 := by
  have hg := gR_pos (a := p) hd.1
  have h1 := low_bd (x := 0) hg (Int.le_refl _) (show (0 : Int) ≤ d by omega) (show gR p d ∣ d by unfold gR; exact Int.ofNat_dvd_left.2 (Nat.gcd_dvd_right _ _)) hd.1
  have h2 : 0 ≤ p.tdiv (gR p d) ∧ p.tdiv (gR p d) ≤ p := by
    rw [Int.tdiv_eq_ediv_of_nonneg hp.1]
    exact ⟨Int.ediv_nonneg hp.1 (by omega), Int.ediv_le_self _ hp.1⟩
  omega
theorem mulA_100 {f : Nat → Int} {a x : List Int} {d : Int} (hf : ∀ j, f j = a.getD j 0) : ∀ n, (∀ j, j < n → 0 ≤ f j) → (∀ j, j < n → 0 ≤ x.getD j 0 ∧ x.getD j 0 ≤ d) → 0 ≤ mulA f x n ∧ mulA f x n ≤ sumL a n * d
  | 0, _, _ => by simp [mulA, sumL]
  | n + 1, h1, h2 => by
    obtain ⟨h3, h4⟩ := mulA_100 hf n (fun j hj => h1 j (by omega)) (fun j hj => h2 j (by omega))
    have h5 := h1 n (by omega)
    have h6 := h2 n (by omega)
    have h7 : 0 ≤ f n * x.getD n 0 := Int.mul_nonneg h5 h6.1
    have h8 : f n * x.getD n 0 ≤ f n * d := Int.mul_le_mul_of_nonneg_left h6.2 h5
    simp only [mulA, sumL]
    rw [Int.add_mul, ← hf n]
    omega
theorem mulB_100 {a b x : List Int} {d : Int} (hb : Pts b) (hl : a.length = b.length) (hx : ∀ j, j < a.length → 0 ≤ x.getD j 0 ∧ x.getD j 0 ≤ d) : 0 ≤ mulB (fA b) x d a.length ∧ mulB (fA b) x d a.length ≤ 100 * d := by
  have h := mulA_100 (f := fA b) (a := b) (x := x) (d := d) (fun j => rfl) a.length (fun j hj => (pts_in hb j (by omega)).1) hx
  rw [mulB_eq (g := fA b) (b := b) (fun j => rfl)]
  have hs := hb.2.2.2
  rw [← hl] at hs
  rw [hs] at h ⊢
  omega
open Classical in
set_option maxHeartbeats 1000000 in
set_option maxRecDepth 100000 in
theorem ShareEfficient_pure (a b x : List Int) (dx : Int) (y : List Int) (dy : Int) : APure Try.prog 8 [.ints false a, .ints false b, parV false x dx, parV false y dy] (fun R => R = .bool true) := by
  refine APure_of (X := cx 158) (cx_ok 158) rfl (rs := [(.tmp 8, 4)]) Try.func8 (by decide) rfl rfl rfl (by simp [cx]) (nofr4 nofrI nofrI nofrPa nofrPa) ?_
  intro hlen
  have fin := alive_pure
  have hfew := few_pure a b x
  ((conv => whnf); repeat (refine stepK_in ?_; (repeat (first | refine seqQ_n ?_ | refine blockQ_n ?_ | refine awp_skip ?_ | refine awp_seq ?_ | refine awp_block ?_)); (conv => whnf)))
  refine APure.to hfew ?_
  by_cases h40 : a.length ≤ 30 ∧ b.length ≤ 30 ∧ x.length ≤ 30
  · rw [decide_eq_true h40]
    ((conv => whnf); repeat (refine stepK_in ?_; (repeat (first | refine seqQ_n ?_ | refine blockQ_n ?_ | refine awp_skip ?_ | refine awp_seq ?_ | refine awp_block ?_)); (conv => whnf)))
    refine br_dec (fun h30 => ?_) (fun h30 => ?_)
    · ((conv => whnf); repeat (refine stepK_in ?_; (repeat (first | refine seqQ_n ?_ | refine blockQ_n ?_ | refine awp_skip ?_ | refine awp_seq ?_ | refine awp_block ?_)); (conv => whnf)))
      refine APure.to fin ?_
      ((conv => whnf); repeat (refine stepK_in ?_; (repeat (first | refine seqQ_n ?_ | refine blockQ_n ?_ | refine awp_skip ?_ | refine awp_seq ?_ | refine awp_block ?_)); (conv => whnf)))
      exact ⟨trivial, rfl⟩
    ((conv => whnf); repeat (refine stepK_in ?_; (repeat (first | refine seqQ_n ?_ | refine blockQ_n ?_ | refine awp_skip ?_ | refine awp_seq ?_ | refine awp_block ?_)); (conv => whnf)))
    refine APure.to (Points_pure a b) ?_
    ((conv => whnf); repeat (refine stepK_in ?_; (repeat (first | refine seqQ_n ?_ | refine blockQ_n ?_ | refine awp_skip ?_ | refine awp_seq ?_ | refine awp_block ?_)); (conv => whnf)))
    refine br_ne (fun h => ?_) (fun h => ?_)
    · ((conv => whnf); repeat (refine stepK_in ?_; (repeat (first | refine seqQ_n ?_ | refine blockQ_n ?_ | refine awp_skip ?_ | refine awp_seq ?_ | refine awp_block ?_)); (conv => whnf)))
      refine APure.to fin ?_
      ((conv => whnf); repeat (refine stepK_in ?_; (repeat (first | refine seqQ_n ?_ | refine blockQ_n ?_ | refine awp_skip ?_ | refine awp_seq ?_ | refine awp_block ?_)); (conv => whnf)))
      exact ⟨trivial, rfl⟩
    obtain ⟨ha, hb, hl⟩ := boE_inv h
    have h8 := ha.2.1
    have c1 := Scores_pure a b x dx
    have c2 := Scores_pure a b y dy
    have q1 := refIsParts_pure x dx a.length (by omega)
    have q2 := refIsParts_pure y dy a.length (by omega)
    have e1 : cdE a b x dx = if IsP x dx a.length then 0 else 2 := by unfold cdE; rw [if_pos h]
    have e2 : cdE a b y dy = if IsP y dy a.length then 0 else 2 := by unfold cdE; rw [if_pos h]
    by_cases hx : IsP x dx a.length
    · rw [if_pos hx] at e1
      rw [show scV a b x dx = tup3 (ratP (mulA (fA a) x a.length) dx) (ratP (mulB (fA b) x dx a.length) dx) (.int 0) by unfold scV; rw [if_pos e1]] at c1
      rw [decide_eq_true hx] at q1
      by_cases hy : IsP y dy a.length
      · rw [if_pos hy] at e2
        rw [show scV a b y dy = tup3 (ratP (mulA (fA a) y a.length) dy) (ratP (mulB (fA b) y dy a.length) dy) (.int 0) by unfold scV; rw [if_pos e2]] at c2
        have c3 := Efficient_pure a b x dx
        rw [show efV a b x dx = tup2 (.bool (decide (Eff (fA a) (fA b) a.length x dx))) (.int 0) by unfold efV; rw [if_pos e1]] at c3
        have c4 := Winner_pure a b
        rw [show wiV a b = tup3 (parV true (wN a b) (wD a b)) (ratP (mulA (fA a) (wN a b) a.length) (wD a b)) (.int 0) by unfold wiV; rw [if_pos h]] at c4
        obtain ⟨w1, w2, w3⟩ := wN_bd ha hb hl
        have xb := hx.2.2.2.1
        have yb := hy.2.2.2.1
        have hxd : 1 ≤ dx ∧ dx ≤ 10000000 := ⟨hx.2.1, hx.2.2.1⟩
        have hyd : 1 ≤ dy ∧ dy ≤ 10000000 := ⟨hy.2.1, hy.2.2.1⟩
        have fa0 : ∀ j, j < a.length → 0 ≤ fA a j := fun j hj => (pts_in ha j hj).1
        have fb0 : ∀ j, j < a.length → 0 ≤ fA b j := fun j hj => (pts_in hb j (by omega)).1
        have b1 := mulA_100 (f := fA a) (a := a) (x := x) (d := dx) (fun j => rfl) a.length fa0 xb
        have b2 := mulB_100 (x := x) (d := dx) hb hl xb
        have b3 := mulA_100 (f := fA a) (a := a) (x := y) (d := dy) (fun j => rfl) a.length fa0 yb
        have b4 := mulB_100 (x := y) (d := dy) hb hl yb
        have b5 := mulA_100 (f := fA a) (a := a) (x := wN a b) (d := wD a b) (fun j => rfl) a.length fa0 w3
        rw [ha.2.2.2] at b1 b3 b5
        have sm1 := rat_sm hxd b1
        have sm2 := rat_sm hxd b2
        have sm3 := rat_sm hyd b3
        have sm4 := rat_sm hyd b4
        have sm5 := rat_sm ⟨w1.1, by omega⟩ b5
        have F1 : Eff (fA a) (fA b) a.length x dx → mulA (fA a) x a.length * dy ≤ mulA (fA a) y a.length * dx → mulB (fA b) x dx a.length * dy ≤ mulB (fA b) y dy a.length * dx → mulA (fA a) y a.length * dx ≤ mulA (fA a) x a.length * dy ∧ mulB (fA b) y dy a.length * dx ≤ mulB (fA b) x dx a.length * dy := fun hE => eff_best fa0 fb0 hxd.1 hyd.1 xb yb hE
        have F2 := w_least ha hb hl hyd.1 yb
        generalize mulA (fA a) x a.length = P at *
        generalize mulB (fA b) x dx a.length = Q at *
        generalize mulA (fA a) y a.length = R at *
        generalize mulB (fA b) y dy a.length = S at *
        generalize mulA (fA a) (wN a b) a.length = U at *
        generalize wN a b = l at *
        generalize wD a b = dw at *
        have k1 := rat_cmp (p := P) (d := dx) (p' := R) (d' := dy) hxd.1 hyd.1
        have k2 := rat_cmp (p := Q) (d := dx) (p' := S) (d' := dy) hxd.1 hyd.1
        have k3 := rat_cmp (p := R) (d := dy) (p' := P) (d' := dx) hyd.1 hxd.1
        have k4 := rat_cmp (p := S) (d := dy) (p' := Q) (d' := dx) hyd.1 hxd.1
        have k5 := rat_cmp (p := R) (d := dy) (p' := U) (d' := dw) hyd.1 w1.1
        have k6 := rat_cmp (p := S) (d := dy) (p' := U) (d' := dw) hyd.1 w1.1
        rw [← k1, ← k2, ← k3, ← k4] at F1
        rw [← k5, ← k6] at F2
        rw [show ratP P dx = pairV (P.tdiv (gR P dx)) (dx.tdiv (gR P dx)) from rfl, show ratP Q dx = pairV (Q.tdiv (gR Q dx)) (dx.tdiv (gR Q dx)) from rfl] at c1
        rw [show ratP R dy = pairV (R.tdiv (gR R dy)) (dy.tdiv (gR R dy)) from rfl, show ratP S dy = pairV (S.tdiv (gR S dy)) (dy.tdiv (gR S dy)) from rfl] at c2
        rw [show ratP U dw = pairV (U.tdiv (gR U dw)) (dw.tdiv (gR U dw)) from rfl] at c4
        clear k1 k2 k3 k4 k5 k6 b1 b2 b3 b4 b5
        generalize P.tdiv (gR P dx) = p1 at *
        generalize dx.tdiv (gR P dx) = p2 at *
        generalize Q.tdiv (gR Q dx) = q1 at *
        generalize dx.tdiv (gR Q dx) = q2 at *
        generalize R.tdiv (gR R dy) = r1 at *
        generalize dy.tdiv (gR R dy) = r2 at *
        generalize S.tdiv (gR S dy) = s1 at *
        generalize dy.tdiv (gR S dy) = s2 at *
        generalize U.tdiv (gR U dw) = u1 at *
        generalize dw.tdiv (gR U dw) = u2 at *
        have L : ∀ p d : Int, (-4294967296 < p ∧ p < 4294967296) ∧ 1 ≤ d ∧ d < 1073741824 → APure Try.prog 37 [pairV p d] (fun R => R = .bool true) := fun p d h => by
          have := little_pure p d
          rwa [decide_eq_true (by omega)] at this
        have A : ∀ p d q e : Int, (-4294967296 < p ∧ p < 4294967296) ∧ 1 ≤ d ∧ d < 1073741824 → (-4294967296 < q ∧ q < 4294967296) ∧ 1 ≤ e ∧ e < 1073741824 → APure Try.prog 38 [pairV p d, pairV q e] (fun R => R = .bool (decide (p * e ≤ q * d))) := fun p d q e h h' => atMost_pure p d q e h.1 h.2 h'.1 h'.2
        ((conv => whnf); repeat (refine stepK_in ?_; (repeat (first | refine seqQ_n ?_ | refine blockQ_n ?_ | refine awp_skip ?_ | refine awp_seq ?_ | refine awp_block ?_)); (conv => whnf)))
        refine APure.to (APure.arg3 (Sub.refl _) (Sub.refl _) (sub2 rfl rfl) c1) ?_
        ((conv => whnf); repeat (refine stepK_in ?_; (repeat (first | refine seqQ_n ?_ | refine blockQ_n ?_ | refine awp_skip ?_ | refine awp_seq ?_ | refine awp_block ?_)); (conv => whnf)))
        refine APure.to (APure.arg3 (Sub.refl _) (Sub.refl _) (sub2 rfl rfl) c2) ?_
        ((conv => whnf); repeat (refine stepK_in ?_; (repeat (first | refine seqQ_n ?_ | refine blockQ_n ?_ | refine awp_skip ?_ | refine awp_seq ?_ | refine awp_block ?_)); (conv => whnf)))
        refine APure.to (APure.arg3 (Sub.refl _) (Sub.refl _) (sub2 rfl rfl) c3) ?_
        ((conv => whnf); repeat (refine stepK_in ?_; (repeat (first | refine seqQ_n ?_ | refine blockQ_n ?_ | refine awp_skip ?_ | refine awp_seq ?_ | refine awp_block ?_)); (conv => whnf)))
        refine APure.to c4 ?_
        ((conv => whnf); repeat (refine stepK_in ?_; (repeat (first | refine seqQ_n ?_ | refine blockQ_n ?_ | refine awp_skip ?_ | refine awp_seq ?_ | refine awp_block ?_)); (conv => whnf)))
        refine APure.to (APure.arg1 (sub2 rfl rfl) (L p1 p2 sm1)) ?_
        ((conv => whnf); repeat (refine stepK_in ?_; (repeat (first | refine seqQ_n ?_ | refine blockQ_n ?_ | refine awp_skip ?_ | refine awp_seq ?_ | refine awp_block ?_)); (conv => whnf)))
        refine APure.to (APure.arg1 (sub2 rfl rfl) (L q1 q2 sm2)) ?_
        ((conv => whnf); repeat (refine stepK_in ?_; (repeat (first | refine seqQ_n ?_ | refine blockQ_n ?_ | refine awp_skip ?_ | refine awp_seq ?_ | refine awp_block ?_)); (conv => whnf)))
        refine APure.to (APure.arg1 (sub2 rfl rfl) (L r1 r2 sm3)) ?_
        ((conv => whnf); repeat (refine stepK_in ?_; (repeat (first | refine seqQ_n ?_ | refine blockQ_n ?_ | refine awp_skip ?_ | refine awp_seq ?_ | refine awp_block ?_)); (conv => whnf)))
        refine APure.to (APure.arg1 (sub2 rfl rfl) (L s1 s2 sm4)) ?_
        ((conv => whnf); repeat (refine stepK_in ?_; (repeat (first | refine seqQ_n ?_ | refine blockQ_n ?_ | refine awp_skip ?_ | refine awp_seq ?_ | refine awp_block ?_)); (conv => whnf)))
        refine APure.to (APure.arg1 (sub2 rfl rfl) (L u1 u2 sm5)) ?_
        ((conv => whnf); repeat (refine stepK_in ?_; (repeat (first | refine seqQ_n ?_ | refine blockQ_n ?_ | refine awp_skip ?_ | refine awp_seq ?_ | refine awp_block ?_)); (conv => whnf)))
        refine br_dec (fun hE => ?_) (fun hE => ?_)
        · have F1 := F1 hE
          ((conv => whnf); repeat (refine stepK_in ?_; (repeat (first | refine seqQ_n ?_ | refine blockQ_n ?_ | refine awp_skip ?_ | refine awp_seq ?_ | refine awp_block ?_)); (conv => whnf)))
          refine APure.to (APure.arg2 (sub2 rfl rfl) (sub2 rfl rfl) (A p1 p2 r1 r2 sm1 sm3)) ?_
          ((conv => whnf); repeat (refine stepK_in ?_; (repeat (first | refine seqQ_n ?_ | refine blockQ_n ?_ | refine awp_skip ?_ | refine awp_seq ?_ | refine awp_block ?_)); (conv => whnf)))
          refine br_dec (fun g1 => ?_) (fun g1 => ?_)
          · have F1 := F1 g1
            ((conv => whnf); repeat (refine stepK_in ?_; (repeat (first | refine seqQ_n ?_ | refine blockQ_n ?_ | refine awp_skip ?_ | refine awp_seq ?_ | refine awp_block ?_)); (conv => whnf)))
            refine APure.to (APure.arg2 (sub2 rfl rfl) (sub2 rfl rfl) (A q1 q2 s1 s2 sm2 sm4)) ?_
            ((conv => whnf); repeat (refine stepK_in ?_; (repeat (first | refine seqQ_n ?_ | refine blockQ_n ?_ | refine awp_skip ?_ | refine awp_seq ?_ | refine awp_block ?_)); (conv => whnf)))
            refine br_dec (fun g2 => ?_) (fun g2 => ?_)
            · have F1 := F1 g2
              have a3 := A r1 r2 p1 p2 sm3 sm1
              have a4 := A s1 s2 q1 q2 sm4 sm2
              rw [decide_eq_true F1.1] at a3
              rw [decide_eq_true F1.2] at a4
              ((conv => whnf); repeat (refine stepK_in ?_; (repeat (first | refine seqQ_n ?_ | refine blockQ_n ?_ | refine awp_skip ?_ | refine awp_seq ?_ | refine awp_block ?_)); (conv => whnf)))
              refine APure.to (APure.arg2 (sub2 rfl rfl) (sub2 rfl rfl) a3) ?_
              ((conv => whnf); repeat (refine stepK_in ?_; (repeat (first | refine seqQ_n ?_ | refine blockQ_n ?_ | refine awp_skip ?_ | refine awp_seq ?_ | refine awp_block ?_)); (conv => whnf)))
              refine APure.to (APure.arg2 (sub2 rfl rfl) (sub2 rfl rfl) a4) ?_
              ((conv => whnf); repeat (refine stepK_in ?_; (repeat (first | refine seqQ_n ?_ | refine blockQ_n ?_ | refine awp_skip ?_ | refine awp_seq ?_ | refine awp_block ?_)); (conv => whnf)))
              refine APure.to (APure.arg2 (sub2 rfl rfl) (sub2 rfl rfl) (A r1 r2 u1 u2 sm3 sm5)) ?_
              ((conv => whnf); repeat (refine stepK_in ?_; (repeat (first | refine seqQ_n ?_ | refine blockQ_n ?_ | refine awp_skip ?_ | refine awp_seq ?_ | refine awp_block ?_)); (conv => whnf)))
              refine br_dec (fun hw => ?_) (fun hw => ?_)
              · ((conv => whnf); repeat (refine stepK_in ?_; (repeat (first | refine seqQ_n ?_ | refine blockQ_n ?_ | refine awp_skip ?_ | refine awp_seq ?_ | refine awp_block ?_)); (conv => whnf)))
                refine APure.to fin ?_
                ((conv => whnf); repeat (refine stepK_in ?_; (repeat (first | refine seqQ_n ?_ | refine blockQ_n ?_ | refine awp_skip ?_ | refine awp_seq ?_ | refine awp_block ?_)); (conv => whnf)))
                exact ⟨trivial, rfl⟩
              · have hw : ¬ r1 * u2 ≤ u1 * r2 := hw
                have a6 := A s1 s2 u1 u2 sm4 sm5
                rw [decide_eq_true (F2.resolve_left hw)] at a6
                ((conv => whnf); repeat (refine stepK_in ?_; (repeat (first | refine seqQ_n ?_ | refine blockQ_n ?_ | refine awp_skip ?_ | refine awp_seq ?_ | refine awp_block ?_)); (conv => whnf)))
                refine APure.to (APure.arg2 (sub2 rfl rfl) (sub2 rfl rfl) a6) ?_
                ((conv => whnf); repeat (refine stepK_in ?_; (repeat (first | refine seqQ_n ?_ | refine blockQ_n ?_ | refine awp_skip ?_ | refine awp_seq ?_ | refine awp_block ?_)); (conv => whnf)))
                refine APure.to fin ?_
                ((conv => whnf); repeat (refine stepK_in ?_; (repeat (first | refine seqQ_n ?_ | refine blockQ_n ?_ | refine awp_skip ?_ | refine awp_seq ?_ | refine awp_block ?_)); (conv => whnf)))
                exact ⟨trivial, rfl⟩
            · clear F1
              ((conv => whnf); repeat (refine stepK_in ?_; (repeat (first | refine seqQ_n ?_ | refine blockQ_n ?_ | refine awp_skip ?_ | refine awp_seq ?_ | refine awp_block ?_)); (conv => whnf)))
              refine APure.to (APure.arg2 (sub2 rfl rfl) (sub2 rfl rfl) (A r1 r2 u1 u2 sm3 sm5)) ?_
              ((conv => whnf); repeat (refine stepK_in ?_; (repeat (first | refine seqQ_n ?_ | refine blockQ_n ?_ | refine awp_skip ?_ | refine awp_seq ?_ | refine awp_block ?_)); (conv => whnf)))
              refine br_dec (fun hw => ?_) (fun hw => ?_)
              · ((conv => whnf); repeat (refine stepK_in ?_; (repeat (first | refine seqQ_n ?_ | refine blockQ_n ?_ | refine awp_skip ?_ | refine awp_seq ?_ | refine awp_block ?_)); (conv => whnf)))
                refine APure.to fin ?_
                ((conv => whnf); repeat (refine stepK_in ?_; (repeat (first | refine seqQ_n ?_ | refine blockQ_n ?_ | refine awp_skip ?_ | refine awp_seq ?_ | refine awp_block ?_)); (conv => whnf)))
                exact ⟨trivial, rfl⟩
              · have hw : ¬ r1 * u2 ≤ u1 * r2 := hw
                have a6 := A s1 s2 u1 u2 sm4 sm5
                rw [decide_eq_true (F2.resolve_left hw)] at a6
                ((conv => whnf); repeat (refine stepK_in ?_; (repeat (first | refine seqQ_n ?_ | refine blockQ_n ?_ | refine awp_skip ?_ | refine awp_seq ?_ | refine awp_block ?_)); (conv => whnf)))
                refine APure.to (APure.arg2 (sub2 rfl rfl) (sub2 rfl rfl) a6) ?_
                ((conv => whnf); repeat (refine stepK_in ?_; (repeat (first | refine seqQ_n ?_ | refine blockQ_n ?_ | refine awp_skip ?_ | refine awp_seq ?_ | refine awp_block ?_)); (conv => whnf)))
                refine APure.to fin ?_
                ((conv => whnf); repeat (refine stepK_in ?_; (repeat (first | refine seqQ_n ?_ | refine blockQ_n ?_ | refine awp_skip ?_ | refine awp_seq ?_ | refine awp_block ?_)); (conv => whnf)))
                exact ⟨trivial, rfl⟩
          · clear F1
            ((conv => whnf); repeat (refine stepK_in ?_; (repeat (first | refine seqQ_n ?_ | refine blockQ_n ?_ | refine awp_skip ?_ | refine awp_seq ?_ | refine awp_block ?_)); (conv => whnf)))
            refine APure.to (APure.arg2 (sub2 rfl rfl) (sub2 rfl rfl) (A r1 r2 u1 u2 sm3 sm5)) ?_
            ((conv => whnf); repeat (refine stepK_in ?_; (repeat (first | refine seqQ_n ?_ | refine blockQ_n ?_ | refine awp_skip ?_ | refine awp_seq ?_ | refine awp_block ?_)); (conv => whnf)))
            refine br_dec (fun hw => ?_) (fun hw => ?_)
            · ((conv => whnf); repeat (refine stepK_in ?_; (repeat (first | refine seqQ_n ?_ | refine blockQ_n ?_ | refine awp_skip ?_ | refine awp_seq ?_ | refine awp_block ?_)); (conv => whnf)))
              refine APure.to fin ?_
              ((conv => whnf); repeat (refine stepK_in ?_; (repeat (first | refine seqQ_n ?_ | refine blockQ_n ?_ | refine awp_skip ?_ | refine awp_seq ?_ | refine awp_block ?_)); (conv => whnf)))
              exact ⟨trivial, rfl⟩
            · have hw : ¬ r1 * u2 ≤ u1 * r2 := hw
              have a6 := A s1 s2 u1 u2 sm4 sm5
              rw [decide_eq_true (F2.resolve_left hw)] at a6
              ((conv => whnf); repeat (refine stepK_in ?_; (repeat (first | refine seqQ_n ?_ | refine blockQ_n ?_ | refine awp_skip ?_ | refine awp_seq ?_ | refine awp_block ?_)); (conv => whnf)))
              refine APure.to (APure.arg2 (sub2 rfl rfl) (sub2 rfl rfl) a6) ?_
              ((conv => whnf); repeat (refine stepK_in ?_; (repeat (first | refine seqQ_n ?_ | refine blockQ_n ?_ | refine awp_skip ?_ | refine awp_seq ?_ | refine awp_block ?_)); (conv => whnf)))
              refine APure.to fin ?_
              ((conv => whnf); repeat (refine stepK_in ?_; (repeat (first | refine seqQ_n ?_ | refine blockQ_n ?_ | refine awp_skip ?_ | refine awp_seq ?_ | refine awp_block ?_)); (conv => whnf)))
              exact ⟨trivial, rfl⟩
        · clear F1
          ((conv => whnf); repeat (refine stepK_in ?_; (repeat (first | refine seqQ_n ?_ | refine blockQ_n ?_ | refine awp_skip ?_ | refine awp_seq ?_ | refine awp_block ?_)); (conv => whnf)))
          refine APure.to (APure.arg2 (sub2 rfl rfl) (sub2 rfl rfl) (A r1 r2 u1 u2 sm3 sm5)) ?_
          ((conv => whnf); repeat (refine stepK_in ?_; (repeat (first | refine seqQ_n ?_ | refine blockQ_n ?_ | refine awp_skip ?_ | refine awp_seq ?_ | refine awp_block ?_)); (conv => whnf)))
          refine br_dec (fun hw => ?_) (fun hw => ?_)
          · ((conv => whnf); repeat (refine stepK_in ?_; (repeat (first | refine seqQ_n ?_ | refine blockQ_n ?_ | refine awp_skip ?_ | refine awp_seq ?_ | refine awp_block ?_)); (conv => whnf)))
            refine APure.to fin ?_
            ((conv => whnf); repeat (refine stepK_in ?_; (repeat (first | refine seqQ_n ?_ | refine blockQ_n ?_ | refine awp_skip ?_ | refine awp_seq ?_ | refine awp_block ?_)); (conv => whnf)))
            exact ⟨trivial, rfl⟩
          · have hw : ¬ r1 * u2 ≤ u1 * r2 := hw
            have a6 := A s1 s2 u1 u2 sm4 sm5
            rw [decide_eq_true (F2.resolve_left hw)] at a6
            ((conv => whnf); repeat (refine stepK_in ?_; (repeat (first | refine seqQ_n ?_ | refine blockQ_n ?_ | refine awp_skip ?_ | refine awp_seq ?_ | refine awp_block ?_)); (conv => whnf)))
            refine APure.to (APure.arg2 (sub2 rfl rfl) (sub2 rfl rfl) a6) ?_
            ((conv => whnf); repeat (refine stepK_in ?_; (repeat (first | refine seqQ_n ?_ | refine blockQ_n ?_ | refine awp_skip ?_ | refine awp_seq ?_ | refine awp_block ?_)); (conv => whnf)))
            refine APure.to fin ?_
            ((conv => whnf); repeat (refine stepK_in ?_; (repeat (first | refine seqQ_n ?_ | refine blockQ_n ?_ | refine awp_skip ?_ | refine awp_seq ?_ | refine awp_block ?_)); (conv => whnf)))
            exact ⟨trivial, rfl⟩
      · rw [if_neg hy] at e2
        rw [show scV a b y dy = tup3 (pairV 0 0) (pairV 0 0) (.int 2) by unfold scV; rw [if_neg (by omega), e2]] at c2
        rw [decide_eq_false hy] at q2
        obtain ⟨x1, x2, y1, y2, hs⟩ : ∃ x1 x2 y1 y2, tup3 (ratP (mulA (fA a) x a.length) dx) (ratP (mulB (fA b) x dx a.length) dx) (.int 0) = tup3 (pairV x1 x2) (pairV y1 y2) (.int 0) := ⟨_, _, _, _, rfl⟩
        rw [hs] at c1
        ((conv => whnf); repeat (refine stepK_in ?_; (repeat (first | refine seqQ_n ?_ | refine blockQ_n ?_ | refine awp_skip ?_ | refine awp_seq ?_ | refine awp_block ?_)); (conv => whnf)))
        refine APure.to (APure.arg3 (Sub.refl _) (Sub.refl _) (sub2 rfl rfl) c1) ?_
        ((conv => whnf); repeat (refine stepK_in ?_; (repeat (first | refine seqQ_n ?_ | refine blockQ_n ?_ | refine awp_skip ?_ | refine awp_seq ?_ | refine awp_block ?_)); (conv => whnf)))
        refine APure.to (APure.arg3 (Sub.refl _) (Sub.refl _) (sub2 rfl rfl) c2) ?_
        ((conv => whnf); repeat (refine stepK_in ?_; (repeat (first | refine seqQ_n ?_ | refine blockQ_n ?_ | refine awp_skip ?_ | refine awp_seq ?_ | refine awp_block ?_)); (conv => whnf)))
        refine APure.to (APure.arg2 (sub2 rfl rfl) (Sub.refl _) q1) ?_
        ((conv => whnf); repeat (refine stepK_in ?_; (repeat (first | refine seqQ_n ?_ | refine blockQ_n ?_ | refine awp_skip ?_ | refine awp_seq ?_ | refine awp_block ?_)); (conv => whnf)))
        refine APure.to (APure.arg2 (sub2 rfl rfl) (Sub.refl _) q2) ?_
        ((conv => whnf); repeat (refine stepK_in ?_; (repeat (first | refine seqQ_n ?_ | refine blockQ_n ?_ | refine awp_skip ?_ | refine awp_seq ?_ | refine awp_block ?_)); (conv => whnf)))
        refine APure.to fin ?_
        ((conv => whnf); repeat (refine stepK_in ?_; (repeat (first | refine seqQ_n ?_ | refine blockQ_n ?_ | refine awp_skip ?_ | refine awp_seq ?_ | refine awp_block ?_)); (conv => whnf)))
        exact ⟨trivial, rfl⟩
    · rw [if_neg hx] at e1
      rw [show scV a b x dx = tup3 (pairV 0 0) (pairV 0 0) (.int 2) by unfold scV; rw [if_neg (by omega), e1]] at c1
      rw [decide_eq_false hx] at q1
      by_cases hy : IsP y dy a.length
      · rw [if_pos hy] at e2
        rw [decide_eq_true hy] at q2
        obtain ⟨x1, x2, y1, y2, hs⟩ : ∃ x1 x2 y1 y2, scV a b y dy = tup3 (pairV x1 x2) (pairV y1 y2) (.int 0) := ⟨_, _, _, _, by unfold scV; rw [if_pos e2]⟩
        rw [hs] at c2
        ((conv => whnf); repeat (refine stepK_in ?_; (repeat (first | refine seqQ_n ?_ | refine blockQ_n ?_ | refine awp_skip ?_ | refine awp_seq ?_ | refine awp_block ?_)); (conv => whnf)))
        refine APure.to (APure.arg3 (Sub.refl _) (Sub.refl _) (sub2 rfl rfl) c1) ?_
        ((conv => whnf); repeat (refine stepK_in ?_; (repeat (first | refine seqQ_n ?_ | refine blockQ_n ?_ | refine awp_skip ?_ | refine awp_seq ?_ | refine awp_block ?_)); (conv => whnf)))
        refine APure.to (APure.arg3 (Sub.refl _) (Sub.refl _) (sub2 rfl rfl) c2) ?_
        ((conv => whnf); repeat (refine stepK_in ?_; (repeat (first | refine seqQ_n ?_ | refine blockQ_n ?_ | refine awp_skip ?_ | refine awp_seq ?_ | refine awp_block ?_)); (conv => whnf)))
        refine APure.to (APure.arg2 (sub2 rfl rfl) (Sub.refl _) q1) ?_
        ((conv => whnf); repeat (refine stepK_in ?_; (repeat (first | refine seqQ_n ?_ | refine blockQ_n ?_ | refine awp_skip ?_ | refine awp_seq ?_ | refine awp_block ?_)); (conv => whnf)))
        refine APure.to (APure.arg2 (sub2 rfl rfl) (Sub.refl _) q2) ?_
        ((conv => whnf); repeat (refine stepK_in ?_; (repeat (first | refine seqQ_n ?_ | refine blockQ_n ?_ | refine awp_skip ?_ | refine awp_seq ?_ | refine awp_block ?_)); (conv => whnf)))
        refine APure.to fin ?_
        ((conv => whnf); repeat (refine stepK_in ?_; (repeat (first | refine seqQ_n ?_ | refine blockQ_n ?_ | refine awp_skip ?_ | refine awp_seq ?_ | refine awp_block ?_)); (conv => whnf)))
        exact ⟨trivial, rfl⟩
      · rw [if_neg hy] at e2
        rw [show scV a b y dy = tup3 (pairV 0 0) (pairV 0 0) (.int 2) by unfold scV; rw [if_neg (by omega), e2]] at c2
        rw [decide_eq_false hy] at q2
        ((conv => whnf); repeat (refine stepK_in ?_; (repeat (first | refine seqQ_n ?_ | refine blockQ_n ?_ | refine awp_skip ?_ | refine awp_seq ?_ | refine awp_block ?_)); (conv => whnf)))
        refine APure.to (APure.arg3 (Sub.refl _) (Sub.refl _) (sub2 rfl rfl) c1) ?_
        ((conv => whnf); repeat (refine stepK_in ?_; (repeat (first | refine seqQ_n ?_ | refine blockQ_n ?_ | refine awp_skip ?_ | refine awp_seq ?_ | refine awp_block ?_)); (conv => whnf)))
        refine APure.to (APure.arg3 (Sub.refl _) (Sub.refl _) (sub2 rfl rfl) c2) ?_
        ((conv => whnf); repeat (refine stepK_in ?_; (repeat (first | refine seqQ_n ?_ | refine blockQ_n ?_ | refine awp_skip ?_ | refine awp_seq ?_ | refine awp_block ?_)); (conv => whnf)))
        refine APure.to (APure.arg2 (sub2 rfl rfl) (Sub.refl _) q1) ?_
        ((conv => whnf); repeat (refine stepK_in ?_; (repeat (first | refine seqQ_n ?_ | refine blockQ_n ?_ | refine awp_skip ?_ | refine awp_seq ?_ | refine awp_block ?_)); (conv => whnf)))
        refine APure.to (APure.arg2 (sub2 rfl rfl) (Sub.refl _) q2) ?_
        ((conv => whnf); repeat (refine stepK_in ?_; (repeat (first | refine seqQ_n ?_ | refine blockQ_n ?_ | refine awp_skip ?_ | refine awp_seq ?_ | refine awp_block ?_)); (conv => whnf)))
        refine APure.to fin ?_
        ((conv => whnf); repeat (refine stepK_in ?_; (repeat (first | refine seqQ_n ?_ | refine blockQ_n ?_ | refine awp_skip ?_ | refine awp_seq ?_ | refine awp_block ?_)); (conv => whnf)))
        exact ⟨trivial, rfl⟩
  · rw [decide_eq_false h40]
    ((conv => whnf); repeat (refine stepK_in ?_; (repeat (first | refine seqQ_n ?_ | refine blockQ_n ?_ | refine awp_skip ?_ | refine awp_seq ?_ | refine awp_block ?_)); (conv => whnf)))
    refine APure.to fin ?_
    ((conv => whnf); repeat (refine stepK_in ?_; (repeat (first | refine seqQ_n ?_ | refine blockQ_n ?_ | refine awp_skip ?_ | refine awp_seq ?_ | refine awp_block ?_)); (conv => whnf)))
    exact ⟨trivial, rfl⟩
end Go.Tri
