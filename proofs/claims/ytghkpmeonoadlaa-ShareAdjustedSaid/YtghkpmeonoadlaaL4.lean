/-
  LAW: ShareAdjusted.
-/
import Derived.Test.YtghkpmeonoadlaaB27
import Derived.Test.YtghkpmeonoadlaaE1
namespace Go.Tri
open Go.Proofs

open Classical in
set_option maxRecDepth 100000 in
theorem ShareAdjusted_pure (a b : List Int) : APure Try.prog 7 [.ints false a, .ints false b] (fun R => R = .bool true) := by
  refine APure_of (X := cx 145) (cx_ok 145) rfl (rs := [(.tmp 4, 4)]) Try.func7 (by decide) rfl rfl rfl (by simp [cx]) (by simp [NoFr]) ?_
  intro hlen
  have fin := alive_pure
  have hfew := few_pure a b []
  ((conv => whnf); repeat (refine stepK_in ?_; (repeat (first | refine seqQ_n ?_ | refine blockQ_n ?_ | refine awp_skip ?_ | refine awp_seq ?_ | refine awp_block ?_)); (conv => whnf)))
  refine APure.to hfew ?_
  by_cases h40 : a.length ≤ 30 ∧ b.length ≤ 30 ∧ ([] : List Int).length ≤ 30
  · rw [decide_eq_true h40]
    ((conv => whnf); repeat (refine stepK_in ?_; (repeat (first | refine seqQ_n ?_ | refine blockQ_n ?_ | refine awp_skip ?_ | refine awp_seq ?_ | refine awp_block ?_)); (conv => whnf)))
    refine APure.to (Points_pure a b) ?_
    ((conv => whnf); repeat (refine stepK_in ?_; (repeat (first | refine seqQ_n ?_ | refine blockQ_n ?_ | refine awp_skip ?_ | refine awp_seq ?_ | refine awp_block ?_)); (conv => whnf)))
    refine br_ne (fun h => ?_) (fun h => ?_)
    · ((conv => whnf); repeat (refine stepK_in ?_; (repeat (first | refine seqQ_n ?_ | refine blockQ_n ?_ | refine awp_skip ?_ | refine awp_seq ?_ | refine awp_block ?_)); (conv => whnf)))
      refine APure.to fin ?_
      ((conv => whnf); repeat (refine stepK_in ?_; (repeat (first | refine seqQ_n ?_ | refine blockQ_n ?_ | refine awp_skip ?_ | refine awp_seq ?_ | refine awp_block ?_)); (conv => whnf)))
      exact ⟨trivial, rfl⟩
    obtain ⟨ha, hb, hl⟩ := boE_inv h
    have h8 := ha.2.1
    have c1 := Winner_pure a b
    rw [show wiV a b = tup3 (parV true (wN a b) (wD a b)) (ratP (mulA (fA a) (wN a b) a.length) (wD a b)) (.int 0) by unfold wiV; rw [if_pos h]] at c1
    have c2 := refIsParts_pure (wN a b) (wD a b) a.length (by omega)
    rw [decide_eq_true (w_isP ha hb hl)] at c2
    have c3 := Scores_pure a b (wN a b) (wD a b)
    rw [show scV a b (wN a b) (wD a b) = tup3 (ratP (mulA (fA a) (wN a b) a.length) (wD a b)) (ratP (mulA (fA a) (wN a b) a.length) (wD a b)) (.int 0) by unfold scV; rw [if_pos (w_cd h), w_eq ha hb hl]] at c3
    have c4 := Efficient_pure a b (wN a b) (wD a b)
    rw [show efV a b (wN a b) (wD a b) = tup2 (.bool true) (.int 0) by unfold efV; rw [if_pos (w_cd h), decide_eq_true (w_eff ha hb hl)]] at c4
    have c5 := Whole_pure a b
    rw [show whV a b = tup3 (.int (whoS (fA a) (fA b) a.length)) (.int (les (fA a) (fA b) a.length (whoS (fA a) (fA b) a.length))) (.int 0) by unfold whV; rw [if_pos h]] at c5
    obtain ⟨⟨d1, d2⟩, nl, nb⟩ := wN_bd ha hb hl
    have hbet := w_between ha hb hl
    have hcn := cnB_bd (wN a b) (wD a b)
    obtain ⟨q, q1, q2, q3, _⟩ := w_fac ha hb hl
    have hA := bd8 ha.2.1 (Nat.le_refl _) (d := wD a b) ⟨d1, by omega⟩ (mulA_bd (f := fA a) (pts_in ha) nb _ (Nat.le_refl _))
    have hS : mulA (fA a) (wN a b) a.length ≤ 100 * wD a b * 8 := by
      have h1 := (mulA_bd (f := fA a) (pts_in ha) nb _ (Nat.le_refl _)).2
      have h2 : 100 * wD a b * (a.length : Int) ≤ 100 * wD a b * 8 := Int.mul_le_mul_of_nonneg_left (by omega) (by omega)
      omega
    have hhalf := rat_le (p := mulA (fA a) (wN a b) a.length) (d := wD a b) (q := q) (m := 100) (c := 2) d1 q1 (by rw [q2, q3]; exact w_half ha hb hl)
    have hwhole := rat_le (p := mulA (fA a) (wN a b) a.length) (d := wD a b) (q := q) (m := les (fA a) (fA b) a.length (whoS (fA a) (fA b) a.length)) (c := 1) d1 q1 (by rw [q2, q3, Int.mul_one]; exact w_whole ha hb hl _)
    rw [Int.mul_one] at hwhole
    have hlm := les_bd ha.2.1 (pts_in ha) (show in100 a.length (fA b) by rw [hl]; exact pts_in hb) (whoS (fA a) (fA b) a.length)
    have hlm : 0 ≤ les (fA a) (fA b) a.length (whoS (fA a) (fA b) a.length) ∧ les (fA a) (fA b) a.length (whoS (fA a) (fA b) a.length) ≤ 800 := hlm
    have hg := gR_pos (a := mulA (fA a) (wN a b) a.length) d1
    have rD : 1 ≤ (wD a b).tdiv (gR (mulA (fA a) (wN a b) a.length) (wD a b)) ∧ (wD a b).tdiv (gR (mulA (fA a) (wN a b) a.length) (wD a b)) ≤ 200 := by
      have := low_bd (x := 0) hg (Int.le_refl _) (by omega) (show gR (mulA (fA a) (wN a b) a.length) (wD a b) ∣ wD a b by unfold gR; exact Int.ofNat_dvd_left.2 (Nat.gcd_dvd_right _ _)) d1
      omega
    have rN : 0 ≤ (mulA (fA a) (wN a b) a.length).tdiv (gR (mulA (fA a) (wN a b) a.length) (wD a b)) ∧ (mulA (fA a) (wN a b) a.length).tdiv (gR (mulA (fA a) (wN a b) a.length) (wD a b)) ≤ 200000 := by
      rw [Int.tdiv_eq_ediv_of_nonneg hA.1]
      exact ⟨Int.ediv_nonneg hA.1 (by omega), Int.le_trans (Int.ediv_le_self _ hA.1) (by omega)⟩
    generalize mulA (fA a) (wN a b) a.length = S at *
    have er : ratP S (wD a b) = pairV (S.tdiv (gR S (wD a b))) ((wD a b).tdiv (gR S (wD a b))) := rfl
    rw [er] at c1 c3
    clear er
    generalize hr1 : S.tdiv (gR S (wD a b)) = r1 at *
    generalize hr2 : (wD a b).tdiv (gR S (wD a b)) = r2 at *
    generalize les (fA a) (fA b) a.length (whoS (fA a) (fA b) a.length) = m at *
    generalize whoS (fA a) (fA b) a.length = s1 at *
    have c6 := little_pure r1 r2
    rw [decide_eq_true (show 1 ≤ r2 ∧ r2 < 1073741824 ∧ r1 < 4294967296 ∧ r1 > -4294967296 by omega)] at c6
    clear hS hr1 hr2 q3 q2 hA hg
    generalize wN a b = l at *
    generalize wD a b = d at *
    have m1 : 0 ≤ m * r2 ∧ m * r2 ≤ 160000 := ⟨Int.mul_nonneg hlm.1 (by omega), by
      have h1 : m * r2 ≤ 800 * r2 := Int.mul_le_mul_of_nonneg_right hlm.2 (by omega)
      omega⟩
    ((conv => whnf); repeat (refine stepK_in ?_; (repeat (first | refine seqQ_n ?_ | refine blockQ_n ?_ | refine awp_skip ?_ | refine awp_seq ?_ | refine awp_block ?_)); (conv => whnf)))
    refine APure.to c1 ?_
    ((conv => whnf); repeat (refine stepK_in ?_; (repeat (first | refine seqQ_n ?_ | refine blockQ_n ?_ | refine awp_skip ?_ | refine awp_seq ?_ | refine awp_block ?_)); (conv => whnf)))
    refine APure.to (APure.arg2 (sub2 rfl rfl) (Sub.refl _) c2) ?_
    ((conv => whnf); repeat (refine stepK_in ?_; (repeat (first | refine seqQ_n ?_ | refine blockQ_n ?_ | refine awp_skip ?_ | refine awp_seq ?_ | refine awp_block ?_)); (conv => whnf)))
    refine APure.to (APure.arg1 (sub2 rfl rfl) c6) ?_
    ((conv => whnf); repeat (refine stepK_in ?_; (repeat (first | refine seqQ_n ?_ | refine blockQ_n ?_ | refine awp_skip ?_ | refine awp_seq ?_ | refine awp_block ?_)); (conv => whnf)))
    refine APure.to (APure.arg3 (Sub.refl _) (Sub.refl _) (sub2 rfl rfl) c3) ?_
    ((conv => whnf); repeat (refine stepK_in ?_; (repeat (first | refine seqQ_n ?_ | refine blockQ_n ?_ | refine awp_skip ?_ | refine awp_seq ?_ | refine awp_block ?_)); (conv => whnf)))
    refine APure.to (APure.arg3 (Sub.refl _) (Sub.refl _) (sub2 rfl rfl) c4) ?_
    ((conv => whnf); repeat (refine stepK_in ?_; (repeat (first | refine seqQ_n ?_ | refine blockQ_n ?_ | refine awp_skip ?_ | refine awp_seq ?_ | refine awp_block ?_)); (conv => whnf)))
    refine APure.to c5 ?_
    ((conv => whnf); repeat (refine stepK_in ?_; (repeat (first | refine seqQ_n ?_ | refine blockQ_n ?_ | refine awp_skip ?_ | refine awp_seq ?_ | refine awp_block ?_)); (conv => whnf)))
    refine AW_loop (X := cx 145) (cx_ok 145) [0, 1, 5, 6, 8, 9, 10, 11, 12, 14, 15, 16, 17] (fun vs M => ∃ k : Nat, k ≤ l.length ∧ vs = [.ints false a, .ints false b, .ptr 0 0 0 0, .ptr 1 0 0 0, .ptr 2 0 0 0, .ptr 3 0 0 0, .int 0, .bool true, .int 0, .int m, .int 0, .int (cnB l d k), .int k] ∧ M = [some ⟨24, 2, 0, .one [.ints true l, .int d]⟩, some ⟨28, 2, 0, .one [.int r1, .int r2]⟩, some ⟨28, 2, 0, .one [.int r1, .int r2]⟩, some ⟨28, 2, 0, .one [.int r1, .int r2]⟩])
      (fun vs _ => l.length - (vs.getD 12 .any).toInt.toNat) ?_ ?_
    · exact ⟨0, Nat.zero_le _, rfl, rfl⟩
    rintro vs M ⟨k, hk, rfl, rfl⟩
    have hck := hcn k
    ((conv => whnf); repeat (refine stepK_in ?_; (repeat (first | refine seqQ_n ?_ | refine blockQ_n ?_ | refine awp_skip ?_ | refine awp_seq ?_ | refine awp_block ?_)); (conv => whnf)))
    refine br_dec (fun hlt => ?_) (fun hge => ?_)
    · have hk' : k < l.length := by omega
      ((conv => whnf); repeat (refine stepK_in ?_; (repeat (first | refine seqQ_n ?_ | refine blockQ_n ?_ | refine awp_skip ?_ | refine awp_seq ?_ | refine awp_block ?_)); (conv => whnf)))
      refine AW_draw (X := cx 145) (cx_ok 145) mixed (by kernel_rfl) ?_
      ((conv => whnf); repeat (refine stepK_in ?_; (repeat (first | refine seqQ_n ?_ | refine blockQ_n ?_ | refine awp_skip ?_ | refine awp_seq ?_ | refine awp_block ?_)); (conv => whnf)))
      refine ⟨(show (0 : Int) ≤ (k : Int) by omega), ?_⟩
      refine ⟨(show (k : Int) < (l.length : Int) by omega), ?_⟩
      ((conv => whnf); repeat (refine stepK_in ?_; (repeat (first | refine seqQ_n ?_ | refine blockQ_n ?_ | refine awp_skip ?_ | refine awp_seq ?_ | refine awp_block ?_)); (conv => whnf)))
      refine br_dec (fun h4 => ?_) (fun h4 => ?_)
      · have h4 : l.getD k 0 > 0 := h4
        ((conv => whnf); repeat (refine stepK_in ?_; (repeat (first | refine seqQ_n ?_ | refine blockQ_n ?_ | refine awp_skip ?_ | refine awp_seq ?_ | refine awp_block ?_)); (conv => whnf)))
        refine ⟨(show (0 : Int) ≤ (k : Int) by omega), ?_⟩
        refine ⟨(show (k : Int) < (l.length : Int) by omega), ?_⟩
        ((conv => whnf); repeat (refine stepK_in ?_; (repeat (first | refine seqQ_n ?_ | refine blockQ_n ?_ | refine awp_skip ?_ | refine awp_seq ?_ | refine awp_block ?_)); (conv => whnf)))
        refine br_dec (fun h5 => ?_) (fun h5 => ?_)
        · have h5 : l.getD k 0 < d := h5
          have e : cnB l d (k + 1) = cnB l d k + 1 := by simp only [cnB]; rw [if_pos ⟨by omega, h5⟩]
          ((conv => whnf); repeat (refine stepK_in ?_; (repeat (first | refine seqQ_n ?_ | refine blockQ_n ?_ | refine awp_skip ?_ | refine awp_seq ?_ | refine awp_block ?_)); (conv => whnf)))
          refine ⟨inr (by omega), ?_⟩
          ((conv => whnf); repeat (refine stepK_in ?_; (repeat (first | refine seqQ_n ?_ | refine blockQ_n ?_ | refine awp_skip ?_ | refine awp_seq ?_ | refine awp_block ?_)); (conv => whnf)))
          refine ⟨inr (by omega), ?_⟩
          ((conv => whnf); repeat (refine stepK_in ?_; (repeat (first | refine seqQ_n ?_ | refine blockQ_n ?_ | refine awp_skip ?_ | refine awp_seq ?_ | refine awp_block ?_)); (conv => whnf)))
          refine ⟨⟨k + 1, hk', ?_, rfl⟩, ?_⟩
          · rw [e]; rfl
          · simp [V.toInt, sel, Env.get]; omega
        · have h5 : ¬ l.getD k 0 < d := h5
          have e : cnB l d (k + 1) = cnB l d k := by simp only [cnB]; rw [if_neg (fun h6 => h5 h6.2)]; omega
          ((conv => whnf); repeat (refine stepK_in ?_; (repeat (first | refine seqQ_n ?_ | refine blockQ_n ?_ | refine awp_skip ?_ | refine awp_seq ?_ | refine awp_block ?_)); (conv => whnf)))
          refine ⟨inr (by omega), ?_⟩
          ((conv => whnf); repeat (refine stepK_in ?_; (repeat (first | refine seqQ_n ?_ | refine blockQ_n ?_ | refine awp_skip ?_ | refine awp_seq ?_ | refine awp_block ?_)); (conv => whnf)))
          refine ⟨⟨k + 1, hk', ?_, rfl⟩, ?_⟩
          · rw [e]; rfl
          · simp [V.toInt, sel, Env.get]; omega
      · have h4 : ¬ l.getD k 0 > 0 := h4
        have e : cnB l d (k + 1) = cnB l d k := by simp only [cnB]; rw [if_neg (fun h6 => h4 h6.1)]; omega
        ((conv => whnf); repeat (refine stepK_in ?_; (repeat (first | refine seqQ_n ?_ | refine blockQ_n ?_ | refine awp_skip ?_ | refine awp_seq ?_ | refine awp_block ?_)); (conv => whnf)))
        refine ⟨inr (by omega), ?_⟩
        ((conv => whnf); repeat (refine stepK_in ?_; (repeat (first | refine seqQ_n ?_ | refine blockQ_n ?_ | refine awp_skip ?_ | refine awp_seq ?_ | refine awp_block ?_)); (conv => whnf)))
        refine ⟨⟨k + 1, hk', ?_, rfl⟩, ?_⟩
        · rw [e]; rfl
        · simp [V.toInt, sel, Env.get]; omega
    · obtain rfl : k = l.length := by omega
      ((conv => whnf); repeat (refine stepK_in ?_; (repeat (first | refine seqQ_n ?_ | refine blockQ_n ?_ | refine awp_skip ?_ | refine awp_seq ?_ | refine awp_block ?_)); (conv => whnf)))
      rw [show (r1 == r1 && (r2 == r2 && true)) = true by simp]
      ((conv => whnf); repeat (refine stepK_in ?_; (repeat (first | refine seqQ_n ?_ | refine blockQ_n ?_ | refine awp_skip ?_ | refine awp_seq ?_ | refine awp_block ?_)); (conv => whnf)))
      rw [show (r1 == r1 && (r2 == r2 && true)) = true by simp]
      ((conv => whnf); repeat (refine stepK_in ?_; (repeat (first | refine seqQ_n ?_ | refine blockQ_n ?_ | refine awp_skip ?_ | refine awp_seq ?_ | refine awp_block ?_)); (conv => whnf)))
      rw [decide_eq_true (show cnB l d l.length ≤ 1 from hbet)]
      ((conv => whnf); repeat (refine stepK_in ?_; (repeat (first | refine seqQ_n ?_ | refine blockQ_n ?_ | refine awp_skip ?_ | refine awp_seq ?_ | refine awp_block ?_)); (conv => whnf)))
      refine ⟨(show InR (r1 * 2) from inr (by omega)), ?_⟩
      ((conv => whnf); repeat (refine stepK_in ?_; (repeat (first | refine seqQ_n ?_ | refine blockQ_n ?_ | refine awp_skip ?_ | refine awp_seq ?_ | refine awp_block ?_)); (conv => whnf)))
      refine ⟨(show InR (100 * r2) from inr (by omega)), ?_⟩
      ((conv => whnf); repeat (refine stepK_in ?_; (repeat (first | refine seqQ_n ?_ | refine blockQ_n ?_ | refine awp_skip ?_ | refine awp_seq ?_ | refine awp_block ?_)); (conv => whnf)))
      rw [decide_eq_true (show r1 * 2 ≥ 100 * r2 from hhalf)]
      ((conv => whnf); repeat (refine stepK_in ?_; (repeat (first | refine seqQ_n ?_ | refine blockQ_n ?_ | refine awp_skip ?_ | refine awp_seq ?_ | refine awp_block ?_)); (conv => whnf)))
      refine ⟨(show InR (m * r2) from inr (by omega)), ?_⟩
      ((conv => whnf); repeat (refine stepK_in ?_; (repeat (first | refine seqQ_n ?_ | refine blockQ_n ?_ | refine awp_skip ?_ | refine awp_seq ?_ | refine awp_block ?_)); (conv => whnf)))
      rw [decide_eq_true (show m * r2 ≤ r1 from hwhole)]
      ((conv => whnf); repeat (refine stepK_in ?_; (repeat (first | refine seqQ_n ?_ | refine blockQ_n ?_ | refine awp_skip ?_ | refine awp_seq ?_ | refine awp_block ?_)); (conv => whnf)))
      refine APure.to fin ?_
      ((conv => whnf); repeat (refine stepK_in ?_; (repeat (first | refine seqQ_n ?_ | refine blockQ_n ?_ | refine awp_skip ?_ | refine awp_seq ?_ | refine awp_block ?_)); (conv => whnf)))
      exact ⟨trivial, rfl⟩
  · rw [decide_eq_false h40]
    ((conv => whnf); repeat (refine stepK_in ?_; (repeat (first | refine seqQ_n ?_ | refine blockQ_n ?_ | refine awp_skip ?_ | refine awp_seq ?_ | refine awp_block ?_)); (conv => whnf)))
    refine APure.to fin ?_
    ((conv => whnf); repeat (refine stepK_in ?_; (repeat (first | refine seqQ_n ?_ | refine blockQ_n ?_ | refine awp_skip ?_ | refine awp_seq ?_ | refine awp_block ?_)); (conv => whnf)))
    exact ⟨trivial, rfl⟩
end Go.Tri
