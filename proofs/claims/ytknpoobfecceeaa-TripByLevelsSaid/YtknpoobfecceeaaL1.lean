/-
  LAW: TripByLevels.
-/
import Derived.Test.YtknpoobfecceeaaE1
import Derived.Test.YtknpoobfecceeaaM2
namespace Go.Tri
open Go.Proofs

theorem lev_bd {u x y : Int} {n : Nat} (hu : okH u) (hn : n ≤ 9) (hx : 0 ≤ x ∧ x ≤ n) (hy : 0 ≤ y ∧ y ≤ n) : 0 ≤ u * maxI 0 (x - y) ∧ u * maxI 0 (x - y) ≤ 9000 := by
  obtain ⟨u0, u1⟩ := hu
  have hm : 0 ≤ maxI 0 (x - y) ∧ maxI 0 (x - y) ≤ 9 := by unfold maxI; split <;> omega
  exact ⟨Int.mul_nonneg u0 hm.1, by have := Int.mul_le_mul u1 hm.2 hm.1 (by omega : (0 : Int) ≤ 1000); omega⟩
set_option maxRecDepth 100000 in
theorem TripByLevels_pure (n : Nat) (F T : Nat → Int) (u w : Int) : APure Try.prog 10 [ridesV n F T, slopeV u w] (fun R => R = .bool true) := by
  refine APure_of (X := cx 70) (cx_ok 70) rfl (rs := [(.tmp 4, 4)]) Try.func10 (by decide) rfl rfl rfl (by simp [cx]) (nofr2 nofrR nofrS) ?_
  intro _
  have fin : APure Try.prog 15 [] (fun R => R = .bool true) := alive_pure
  have hfew := few_pure n F T []
  have hday := refDay_pure n F T u w
  ((conv => whnf); repeat (refine stepK_in ?_; (repeat (first | refine seqQ_n ?_ | refine blockQ_n ?_ | refine awp_skip ?_ | refine awp_seq ?_ | refine awp_block ?_)); (conv => whnf)))
  refine APure.to (APure.arg2 subR (Sub.refl _) hfew) ?_
  by_cases h30 : n ≤ 30 ∧ ([] : List Int).length ≤ 30
  · rw [decide_eq_true h30]
    ((conv => whnf); repeat (refine stepK_in ?_; (repeat (first | refine seqQ_n ?_ | refine blockQ_n ?_ | refine awp_skip ?_ | refine awp_seq ?_ | refine awp_block ?_)); (conv => whnf)))
    refine APure.to (APure.arg2 subR (subS1 rfl rfl) hday) ?_
    ((conv => whnf); repeat (refine stepK_in ?_; (repeat (first | refine seqQ_n ?_ | refine blockQ_n ?_ | refine awp_skip ?_ | refine awp_seq ?_ | refine awp_block ?_)); (conv => whnf)))
    refine br_ne (fun h0 => ?_) (fun h0 => ?_)
    · ((conv => whnf); repeat (refine stepK_in ?_; (repeat (first | refine seqQ_n ?_ | refine blockQ_n ?_ | refine awp_skip ?_ | refine awp_seq ?_ | refine awp_block ?_)); (conv => whnf)))
      refine APure.to fin ?_
      ((conv => whnf); repeat (refine stepK_in ?_; (repeat (first | refine seqQ_n ?_ | refine blockQ_n ?_ | refine awp_skip ?_ | refine awp_seq ?_ | refine awp_block ?_)); (conv => whnf)))
      exact ⟨trivial, rfl⟩
    obtain ⟨h1, h9, hr, hu, hw⟩ := dayE_inv h0
    have hre := dayE_rides h0
    have hm := Matching_pure n F T u w
    rw [if_pos h0, if_pos h0, h0, matC_levels hr] at hm
    have hgb : ∀ h : Nat, 0 ≤ gH n F T u w h ∧ gH n F T u w h ≤ 18000 := fun h => by
      have b1 := upP_bd F T ((h : Int) + 1) n
      have b2 := downP_bd F T ((h : Int) + 1) n
      have h1 := lev_bd hu h9 b2 b1
      have h2 := lev_bd hw h9 b1 b2
      unfold gH
      omega
    have hsb : ∀ k : Nat, 0 ≤ sN (gH n F T u w) k ∧ sN (gH n F T u w) k ≤ 18000 * k := by
      intro k
      induction k with
      | zero => simp [sN]
      | succ k ih => have := hgb k; simp only [sN]; omega
    obtain ⟨H, hH⟩ : ∃ H, sN (gH n F T u w) 1000 = H := ⟨_, rfl⟩
    rw [hH] at hm
    ((conv => whnf); repeat (refine stepK_in ?_; (repeat (first | refine seqQ_n ?_ | refine blockQ_n ?_ | refine awp_skip ?_ | refine awp_seq ?_ | refine awp_block ?_)); (conv => whnf)))
    refine APure.to (APure.arg2 subR (subS1 rfl rfl) hm) ?_
    ((conv => whnf); repeat (refine stepK_in ?_; (repeat (first | refine seqQ_n ?_ | refine blockQ_n ?_ | refine awp_skip ?_ | refine awp_seq ?_ | refine awp_block ?_)); (conv => whnf)))
    refine AW_loop (X := cx 70) (cx_ok 70) [0, 3, 6, 7, 8, 9] (fun vs M => ∃ k : Nat, k ≤ 1000 ∧ vs = [ridesV n F T, .ptr 0 0 0 0, .int H, .int 0, .int (sN (gH n F T u w) k), .int ((k : Int) + 1)] ∧ M = [some ⟨24, 2, 0, .one [.int u, .int w]⟩])
      (fun vs _ => 1001 - (vs.getD 5 .any).toInt.toNat) ?_ ?_
    · exact ⟨0, Nat.zero_le _, rfl, rfl⟩
    rintro vs M ⟨k, hk, rfl, rfl⟩
    have hs := hsb k
    have hs1 := hsb (k + 1)
    have hgk := hgb k
    have es : sN (gH n F T u w) (k + 1) = sN (gH n F T u w) k + gH n F T u w k := rfl
    have eg : gH n F T u w k = u * maxI 0 (downP F T (k + 1) n - upP F T (k + 1) n) + w * maxI 0 (upP F T (k + 1) n - downP F T (k + 1) n) := rfl
    ((conv => whnf); repeat (refine stepK_in ?_; (repeat (first | refine seqQ_n ?_ | refine blockQ_n ?_ | refine awp_skip ?_ | refine awp_seq ?_ | refine awp_block ?_)); (conv => whnf)))
    refine br_dec (fun hlt => ?_) (fun hge => ?_)
    · have hlv := Level_pure n F T ((k : Int) + 1) hre ⟨by omega, by omega⟩
      have b1 := upP_bd F T ((k : Int) + 1) n
      have b2 := downP_bd F T ((k : Int) + 1) n
      generalize upP F T ((k : Int) + 1) n = a at *
      generalize downP F T ((k : Int) + 1) n = b at *
      ((conv => whnf); repeat (refine stepK_in ?_; (repeat (first | refine seqQ_n ?_ | refine blockQ_n ?_ | refine awp_skip ?_ | refine awp_seq ?_ | refine awp_block ?_)); (conv => whnf)))
      refine APure.to (APure.arg2 subR (Sub.refl _) hlv) ?_
      ((conv => whnf); repeat (refine stepK_in ?_; (repeat (first | refine seqQ_n ?_ | refine blockQ_n ?_ | refine awp_skip ?_ | refine awp_seq ?_ | refine awp_block ?_)); (conv => whnf)))
      have p1 := lev_bd hu h9 b2 b1
      have p2 := lev_bd hw h9 b1 b2
      have hfin : sN (gH n F T u w) k + (u * maxI 0 (b - a) + w * maxI 0 (a - b)) = sN (gH n F T u w) (k + 1) := by rw [es, eg]
      repeat ((first | refine ⟨inr (show -9223372036854775808 ≤ b - a ∧ b - a ≤ 9223372036854775807 by omega), ?_⟩ | refine ⟨inr (show -9223372036854775808 ≤ a - b ∧ a - b ≤ 9223372036854775807 by omega), ?_⟩ | refine ⟨inr (show -9223372036854775808 ≤ u * maxI 0 (b - a) ∧ u * maxI 0 (b - a) ≤ 9223372036854775807 by omega), ?_⟩ | refine ⟨inr (show -9223372036854775808 ≤ w * maxI 0 (a - b) ∧ w * maxI 0 (a - b) ≤ 9223372036854775807 by omega), ?_⟩ | refine ⟨inr (show -9223372036854775808 ≤ u * maxI 0 (b - a) + w * maxI 0 (a - b) ∧ u * maxI 0 (b - a) + w * maxI 0 (a - b) ≤ 9223372036854775807 by omega), ?_⟩ | refine ⟨inr (show -9223372036854775808 ≤ sN (gH n F T u w) k + (u * maxI 0 (b - a) + w * maxI 0 (a - b)) ∧ sN (gH n F T u w) k + (u * maxI 0 (b - a) + w * maxI 0 (a - b)) ≤ 9223372036854775807 by omega), ?_⟩); ((conv => whnf); repeat (refine stepK_in ?_; (repeat (first | refine seqQ_n ?_ | refine blockQ_n ?_ | refine awp_skip ?_ | refine awp_seq ?_ | refine awp_block ?_)); (conv => whnf))))
      refine ⟨inr (show -9223372036854775808 ≤ (k : Int) + 1 + 1 ∧ (k : Int) + 1 + 1 ≤ 9223372036854775807 by omega), ?_⟩
      ((conv => whnf); repeat (refine stepK_in ?_; (repeat (first | refine seqQ_n ?_ | refine blockQ_n ?_ | refine awp_skip ?_ | refine awp_seq ?_ | refine awp_block ?_)); (conv => whnf)))
      refine ⟨⟨k + 1, by omega, ?_, rfl⟩, ?_⟩
      · rw [← hfin]; rfl
      · simp [V.toInt, sel, Env.get]; omega
    · have hk1 : k = 1000 := by omega
      rw [show sN (gH n F T u w) k = H from by rw [hk1]; exact hH]
      ((conv => whnf); repeat (refine stepK_in ?_; (repeat (first | refine seqQ_n ?_ | refine blockQ_n ?_ | refine awp_skip ?_ | refine awp_seq ?_ | refine awp_block ?_)); (conv => whnf)))
      refine br_eq (fun _ => ?_) (fun h => absurd rfl h)
      ((conv => whnf); repeat (refine stepK_in ?_; (repeat (first | refine seqQ_n ?_ | refine blockQ_n ?_ | refine awp_skip ?_ | refine awp_seq ?_ | refine awp_block ?_)); (conv => whnf)))
      refine APure.to fin ?_
      ((conv => whnf); repeat (refine stepK_in ?_; (repeat (first | refine seqQ_n ?_ | refine blockQ_n ?_ | refine awp_skip ?_ | refine awp_seq ?_ | refine awp_block ?_)); (conv => whnf)))
      exact ⟨trivial, rfl⟩
  · rw [decide_eq_false h30]
    ((conv => whnf); repeat (refine stepK_in ?_; (repeat (first | refine seqQ_n ?_ | refine blockQ_n ?_ | refine awp_skip ?_ | refine awp_seq ?_ | refine awp_block ?_)); (conv => whnf)))
    refine APure.to fin ?_
    ((conv => whnf); repeat (refine stepK_in ?_; (repeat (first | refine seqQ_n ?_ | refine blockQ_n ?_ | refine awp_skip ?_ | refine awp_seq ?_ | refine awp_block ?_)); (conv => whnf)))
    exact ⟨trivial, rfl⟩
end Go.Tri
