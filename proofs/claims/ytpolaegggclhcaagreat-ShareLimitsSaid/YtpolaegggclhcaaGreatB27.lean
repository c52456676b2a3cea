/-
 CONTRACTS: are they parts?, the reference's; small ratios.
-/
import Derived.Test.YtpolaegggclhcaaGreatB23
namespace Go.Tri
open Go.Proofs

open Classical in
set_option maxRecDepth 100000 in
theorem refIsParts2_pure (l : List Int) (d : Int) (n : Nat) (hn : n ≤ 100) (lo hi : Int) (hlo : -5000 ≤ lo ∧ lo ≤ 5000) (hhi : -5000 ≤ hi ∧ hi ≤ 5000) : APure Tryz.prog 31 [parV false l d, .int n, .int lo, .int hi] (fun R => R = .bool (decide (IsQ l d n lo hi))) := by
 refine APure_of (X := cx 71) (cx_ok 71) rfl (rs := [(.tmp 8, 4)]) Tryz.func31 (by decide) rfl rfl rfl (by simp [cx]) (nofr4 nofrPa (show NoFr (.int n) from trivial) (show NoFr (.int lo) from trivial) (show NoFr (.int hi) from trivial)) ?_
 intro hlen
 ((conv=>whnf);repeat (refine Wa ?_;(repeat (first|refine Wb ?_|refine Wc ?_|refine Wd ?_|refine We ?_|refine Wf ?_));(conv=>whnf)))
 refine br_ne (fun h1 => ?_) (fun h1 => ?_)
 ·have h1 : (l.length : Int) ≠ n := h1
  ((conv=>whnf);repeat (refine Wa ?_;(repeat (first|refine Wb ?_|refine Wc ?_|refine Wd ?_|refine We ?_|refine Wf ?_));(conv=>whnf)))
  exact ⟨trivial, Qb (decide_eq_false (fun h => h1 (by rw [h.1]))).symm⟩
 have h1 : l.length = n := by have h1 : (l.length : Int) = n := h1; omega
 subst h1
 ((conv=>whnf);repeat (refine Wa ?_;(repeat (first|refine Wb ?_|refine Wc ?_|refine Wd ?_|refine We ?_|refine Wf ?_));(conv=>whnf)))
 refine br_dec (fun h2 => ?_) (fun h2 => ?_)
 ·have h2 : d < 1 := h2
  ((conv=>whnf);repeat (refine Wa ?_;(repeat (first|refine Wb ?_|refine Wc ?_|refine Wd ?_|refine We ?_|refine Wf ?_));(conv=>whnf)))
  exact ⟨trivial, Qb (decide_eq_false (fun h => by have := h.2.1; omega)).symm⟩
 have h2 : ¬ d < 1 := h2
 ((conv=>whnf);repeat (refine Wa ?_;(repeat (first|refine Wb ?_|refine Wc ?_|refine Wd ?_|refine We ?_|refine Wf ?_));(conv=>whnf)))
 refine br_dec (fun h3 => ?_) (fun h3 => ?_)
 ·have h3 : d > 10000000 := h3
  ((conv=>whnf);repeat (refine Wa ?_;(repeat (first|refine Wb ?_|refine Wc ?_|refine Wd ?_|refine We ?_|refine Wf ?_));(conv=>whnf)))
  exact ⟨trivial, Qb (decide_eq_false (fun h => by have := h.2.2.1; omega)).symm⟩
 have h3 : ¬ d > 10000000 := h3
 have m1 := mul5k hlo.1 hlo.2 (show 1 ≤ d by omega) (by omega)
 have m2 := mul5k hhi.1 hhi.2 (show 1 ≤ d by omega) (by omega)
 ((conv=>whnf);repeat (refine Wa ?_;(repeat (first|refine Wb ?_|refine Wc ?_|refine Wd ?_|refine We ?_|refine Wf ?_));(conv=>whnf)))
 refine AW_loopA (X := cx 71) (cx_ok 71) [1, 2, 3, 4, 9, 10] (fun t => Nat.blt t 1) (fun vs M => ∃ k : Nat, k ≤ l.length ∧ (∀ j, j < k → lo * d ≤ l.getD j 0 ∧ l.getD j 0 ≤ hi * d) ∧ vs = [.int l.length, .int lo, .int hi, .ptr 0 0 0 0, .int (gK l d k), .int k] ∧ M = [some ⟨25, 2, 0, .one [.ints false l, .int d]⟩])
  (fun vs _ => l.length - (vs.getD 5 .any).toInt.toNat) (fun t ht => by have : t < 1 := ht; simp; omega) ?_ ?_
 ·exact same0 ⟨0, Nat.zero_le _, fun j hj => absurd hj (by omega), rfl, rfl⟩
 rintro vs M ⟨k, hk, hb, rfl, rfl⟩
 ((conv=>whnf);repeat (refine Wa ?_;(repeat (first|refine Wb ?_|refine Wc ?_|refine Wd ?_|refine We ?_|refine Wf ?_));(conv=>whnf)))
 refine br_dec (fun hlt => ?_) (fun hge => ?_)
 ·have hk' : k < l.length := by omega
  have bad : ¬ (lo * d ≤ l.getD k 0 ∧ l.getD k 0 ≤ hi * d) → V.bool false = V.bool (decide (IsQ l d l.length lo hi)) := fun h => Qb (decide_eq_false (fun h5 => h (h5.2.2.2.1 k hk'))).symm
  ((conv=>whnf);repeat (refine Wa ?_;(repeat (first|refine Wb ?_|refine Wc ?_|refine Wd ?_|refine We ?_|refine Wf ?_));(conv=>whnf)))
  refine AW_draw (X := cx 71) (cx_ok 71) mixed (by kernel_rfl) ?_
  ((conv=>whnf);repeat (refine Wa ?_;(repeat (first|refine Wb ?_|refine Wc ?_|refine Wd ?_|refine We ?_|refine Wf ?_));(conv=>whnf)))
  refine ⟨(show (0 : Int) ≤ (k : Int) by omega), ?_⟩
  refine ⟨(show (k : Int) < (l.length : Int) by omega), ?_⟩
  ((conv=>whnf);repeat (refine Wa ?_;(repeat (first|refine Wb ?_|refine Wc ?_|refine Wd ?_|refine We ?_|refine Wf ?_));(conv=>whnf)))
  refine ⟨(show InR (lo * d) from inr (by omega)), ?_⟩
  ((conv=>whnf);repeat (refine Wa ?_;(repeat (first|refine Wb ?_|refine Wc ?_|refine Wd ?_|refine We ?_|refine Wf ?_));(conv=>whnf)))
  refine br_dec (fun h4 => ?_) (fun h4 => ?_)
  ·have h4 : l.getD k 0 < lo * d := h4
   ((conv=>whnf);repeat (refine Wa ?_;(repeat (first|refine Wb ?_|refine Wc ?_|refine Wd ?_|refine We ?_|refine Wf ?_));(conv=>whnf)))
   exact ⟨trivial, bad (by omega)⟩
  have h4 : ¬ l.getD k 0 < lo * d := h4
  ((conv=>whnf);repeat (refine Wa ?_;(repeat (first|refine Wb ?_|refine Wc ?_|refine Wd ?_|refine We ?_|refine Wf ?_));(conv=>whnf)))
  refine ⟨(show (0 : Int) ≤ (k : Int) by omega), ?_⟩
  refine ⟨(show (k : Int) < (l.length : Int) by omega), ?_⟩
  ((conv=>whnf);repeat (refine Wa ?_;(repeat (first|refine Wb ?_|refine Wc ?_|refine Wd ?_|refine We ?_|refine Wf ?_));(conv=>whnf)))
  refine ⟨(show InR (hi * d) from inr (by omega)), ?_⟩
  ((conv=>whnf);repeat (refine Wa ?_;(repeat (first|refine Wb ?_|refine Wc ?_|refine Wd ?_|refine We ?_|refine Wf ?_));(conv=>whnf)))
  refine br_dec (fun h5 => ?_) (fun h5 => ?_)
  ·have h5 : l.getD k 0 > hi * d := h5
   ((conv=>whnf);repeat (refine Wa ?_;(repeat (first|refine Wb ?_|refine Wc ?_|refine Wd ?_|refine We ?_|refine Wf ?_));(conv=>whnf)))
   exact ⟨trivial, bad (by omega)⟩
  have h5 : ¬ l.getD k 0 > hi * d := h5
  have hd : Sm d := by unfold Sm; omega
  have hg := gK_sm (nums := l) (show 1 ≤ d by omega) hd k
  have c1 := Gcd_pure (gK l d k) ((l.getD k 0).natAbs : Int) hg.1 (by unfold Sm; omega)
  rw [← maxI_abs] at c1
  ((conv=>whnf);repeat (refine Wa ?_;(repeat (first|refine Wb ?_|refine Wc ?_|refine Wd ?_|refine We ?_|refine Wf ?_));(conv=>whnf)))
  refine AW_draw (X := cx 71) (cx_ok 71) mixed (by kernel_rfl) ?_
  ((conv=>whnf);repeat (refine Wa ?_;(repeat (first|refine Wb ?_|refine Wc ?_|refine Wd ?_|refine We ?_|refine Wf ?_));(conv=>whnf)))
  repeat ((first | refine ⟨(show (0 : Int) ≤ (k : Int) by omega), ?_⟩ | refine ⟨(show (k : Int) < (l.length : Int) by omega), ?_⟩ | refine ⟨(show InR (-(l.getD k 0)) from inr (by omega)), ?_⟩); ((conv=>whnf);repeat (refine Wa ?_;(repeat (first|refine Wb ?_|refine Wc ?_|refine Wd ?_|refine We ?_|refine Wf ?_));(conv=>whnf))))
  refine ⟨_, c1, ?_⟩
  ((conv=>whnf);repeat (refine Wa ?_;(repeat (first|refine Wb ?_|refine Wc ?_|refine Wd ?_|refine We ?_|refine Wf ?_));(conv=>whnf)))
  refine ⟨inr (by omega), ?_⟩
  ((conv=>whnf);repeat (refine Wa ?_;(repeat (first|refine Wb ?_|refine Wc ?_|refine Wd ?_|refine We ?_|refine Wf ?_));(conv=>whnf)))
  refine ⟨by repeat (first|exact trivial|exact rfl|exact fun _=>trivial|exact fun _ _=>trivial|exact fun _ _ _=>trivial|exact fun _ _ _ _=>trivial|refine And.intro ?_ ?_), memA1 [some ⟨25, 2, 0, .one [.ints false l, .int d]⟩] ⟨ObSub.refl _, trivial⟩ ⟨⟨k + 1, hk', fun j hj => ?_, ?_, rfl⟩, ?_⟩⟩
  ·rcases (by omega : j < k ∨ j = k) with h6 | rfl
   ·exact hb j h6
   ·omega
  ·simp only [gK]; rw [← maxI_abs]; rfl
  ·simp [V.toInt, sel, Env.get]; omega
 ·obtain rfl : k = l.length := by omega
  have hgp : gK l d l.length = gP l d := gK_is (by omega) _
  rw [hgp]
  ((conv=>whnf);repeat (refine Wa ?_;(repeat (first|refine Wb ?_|refine Wc ?_|refine Wd ?_|refine We ?_|refine Wf ?_));(conv=>whnf)))
  refine ⟨trivial, Qb ?_⟩
  rw [Bool.eq_iff_iff, beq_iff_eq, decide_eq_true_iff]
  exact ⟨fun h5 => ⟨rfl, by omega, by omega, hb, h5⟩, fun h5 => h5.2.2.2.2⟩
/-- A ratio of small numbers. -/
theorem little_pure (p d : Int) : APure Tryz.prog 15 [pairV p d] (fun R => R = .bool (decide (1 ≤ d ∧ d < 1073741824 ∧ p < 4294967296 ∧ p > -4294967296))) := by
 refine APure_of (X := cx 21) (cx_ok 21) rfl (rs := [(.tmp 2, 4)]) Tryz.func15 (by decide) rfl rfl rfl (by simp [cx]) (nofr1 nofrP) ?_
 intro hlen
 ((conv=>whnf);repeat (refine Wa ?_;(repeat (first|refine Wb ?_|refine Wc ?_|refine Wd ?_|refine We ?_|refine Wf ?_));(conv=>whnf)))
 have no : ¬ (1 ≤ d ∧ d < 1073741824 ∧ p < 4294967296 ∧ p > -4294967296) → V.bool false = V.bool (decide (1 ≤ d ∧ d < 1073741824 ∧ p < 4294967296 ∧ p > -4294967296)) := fun h => Qb (decide_eq_false h).symm
 refine br_dec (fun h1 => ?_) (fun h1 => ?_)
 ·have h1 : d ≥ 1 := h1
  ((conv=>whnf);repeat (refine Wa ?_;(repeat (first|refine Wb ?_|refine Wc ?_|refine Wd ?_|refine We ?_|refine Wf ?_));(conv=>whnf)))
  refine br_dec (fun h2 => ?_) (fun h2 => ?_)
  ·have h2 : d < 1073741824 := h2
   ((conv=>whnf);repeat (refine Wa ?_;(repeat (first|refine Wb ?_|refine Wc ?_|refine Wd ?_|refine We ?_|refine Wf ?_));(conv=>whnf)))
   refine br_dec (fun h3 => ?_) (fun h3 => ?_)
   ·have h3 : p < 4294967296 := h3
    ((conv=>whnf);repeat (refine Wa ?_;(repeat (first|refine Wb ?_|refine Wc ?_|refine Wd ?_|refine We ?_|refine Wf ?_));(conv=>whnf)))
    exact ⟨trivial, Qb (decide_eq_decide.2 (by omega))⟩
   ·have h3 : ¬ p < 4294967296 := h3
    ((conv=>whnf);repeat (refine Wa ?_;(repeat (first|refine Wb ?_|refine Wc ?_|refine Wd ?_|refine We ?_|refine Wf ?_));(conv=>whnf)))
    exact ⟨trivial, no (by omega)⟩
  ·have h2 : ¬ d < 1073741824 := h2
   ((conv=>whnf);repeat (refine Wa ?_;(repeat (first|refine Wb ?_|refine Wc ?_|refine Wd ?_|refine We ?_|refine Wf ?_));(conv=>whnf)))
   exact ⟨trivial, no (by omega)⟩
 ·have h1 : ¬ d ≥ 1 := h1
  ((conv=>whnf);repeat (refine Wa ?_;(repeat (first|refine Wb ?_|refine Wc ?_|refine Wd ?_|refine We ?_|refine Wf ?_));(conv=>whnf)))
  exact ⟨trivial, no (by omega)⟩
end Go.Tri
