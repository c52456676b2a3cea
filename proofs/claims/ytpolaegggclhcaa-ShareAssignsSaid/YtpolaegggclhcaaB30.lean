/-
 CONTRACTS: tables of wishes: their checks.
-/
import Derived.Test.YtpolaegggclhcaaB9
import Derived.Test.YtpolaegggclhcaaP2
namespace Go.Tri
open Go.Proofs

theorem nofrT {n : Nat} {W : Nat → List Int} : NoFr (tabV n W) := ⟨rfl, fun _ _ => rfl⟩
/-- Are they wishes? -/
def Wis (n : Nat) (W : Nat → List Int) : Prop := 1 ≤ n ∧ n ≤ 5 ∧ ∀ i, i < n → (W i).length = n ∧ bet 0 1000 (W i) n ∧ sumL (W i) n = sumL (W 0) n
def Sml (n : Nat) (W : Nat → List Int) : Prop := n ≤ 20 ∧ ∀ i, i < n → (W i).length ≤ 20
open Classical in
theorem small_pure (n : Nat) (W : Nat → List Int) : APure Try.prog 26 [tabV n W] (fun R => R = .bool (decide (Sml n W))) := by
 refine APure_of (X := cx 20) (cx_ok 20) rfl (rs := [(.tmp 2, 4)]) Try.func26 (by decide) rfl rfl rfl (by simp [cx]) (nofr1 nofrT) ?_
 intro hlen
 ((conv=>whnf);repeat (refine Wa ?_;(repeat (first|refine Wb ?_|refine Wc ?_|refine Wd ?_|refine We ?_|refine Wf ?_));(conv=>whnf)))
 refine AW_loop (X := cx 20) (cx_ok 20) [0, 3] (fun vs M => ∃ i : Nat, i ≤ n ∧ i ≤ 20 ∧ (∀ q, q < i → (W q).length ≤ 20) ∧ vs = [tabV n W, .int i] ∧ M = []) (fun vs _ => n - (vs.getD 1 .any).toInt.toNat) ?_ ?_
 ·exact ⟨0, Nat.zero_le _, by omega, fun q hq => absurd hq (by omega), rfl, rfl⟩
 rintro vs M ⟨i, hi, h20, hI, rfl, rfl⟩
 ((conv=>whnf);repeat (refine Wa ?_;(repeat (first|refine Wb ?_|refine Wc ?_|refine Wd ?_|refine We ?_|refine Wf ?_));(conv=>whnf)))
 refine br_dec (fun hlt => ?_) (fun hge => ?_)
 ·have hi' : i < n := by omega
  ((conv=>whnf);repeat (refine Wa ?_;(repeat (first|refine Wb ?_|refine Wc ?_|refine Wd ?_|refine We ?_|refine Wf ?_));(conv=>whnf)))
  refine br_dec (fun h1 => ?_) (fun h1 => ?_)
  ·have h1 : (i : Int) ≥ 20 := h1
   ((conv=>whnf);repeat (refine Wa ?_;(repeat (first|refine Wb ?_|refine Wc ?_|refine Wd ?_|refine We ?_|refine Wf ?_));(conv=>whnf)))
   exact ⟨trivial, Qb (decide_eq_false (fun h => by have := h.1; omega)).symm⟩
  ·have h1 : ¬ (i : Int) ≥ 20 := h1
   ((conv=>whnf);repeat (refine Wa ?_;(repeat (first|refine Wb ?_|refine Wc ?_|refine Wd ?_|refine We ?_|refine Wf ?_));(conv=>whnf)))
   refine ⟨(show (0 : Int) ≤ (i : Int) by omega), ?_⟩
   refine ⟨(show (i : Int) < (n : Int) by omega), ?_⟩
   ((conv=>whnf);repeat (refine Wa ?_;(repeat (first|refine Wb ?_|refine Wc ?_|refine Wd ?_|refine We ?_|refine Wf ?_));(conv=>whnf)))
   refine br_dec (fun h2 => ?_) (fun h2 => ?_)
   ·have h2 : ((W i).length : Int) > 20 := h2
    ((conv=>whnf);repeat (refine Wa ?_;(repeat (first|refine Wb ?_|refine Wc ?_|refine Wd ?_|refine We ?_|refine Wf ?_));(conv=>whnf)))
    exact ⟨trivial, Qb (decide_eq_false (fun h => by have := h.2 i hi'; omega)).symm⟩
   ·have h2 : ¬ ((W i).length : Int) > 20 := h2
    ((conv=>whnf);repeat (refine Wa ?_;(repeat (first|refine Wb ?_|refine Wc ?_|refine Wd ?_|refine We ?_|refine Wf ?_));(conv=>whnf)))
    refine ⟨inr (by omega), ?_⟩
    ((conv=>whnf);repeat (refine Wa ?_;(repeat (first|refine Wb ?_|refine Wc ?_|refine Wd ?_|refine We ?_|refine Wf ?_));(conv=>whnf)))
    refine ⟨⟨i + 1, hi', by omega, fun q hq => ?_, rfl, rfl⟩, ?_⟩
    ·rcases (by omega : q < i ∨ q = i) with h6 | rfl
     ·exact hI q h6
     ·omega
    ·simp [V.toInt, sel, Env.get]; omega
 ·obtain rfl : i = n := by omega
  ((conv=>whnf);repeat (refine Wa ?_;(repeat (first|refine Wb ?_|refine Wc ?_|refine Wd ?_|refine We ?_|refine Wf ?_));(conv=>whnf)))
  exact ⟨trivial, Qb (decide_eq_true (show Sml i W from ⟨h20, hI⟩)).symm⟩
open Classical in
noncomputable def wiE (n : Nat) (W : Nat → List Int) : Int := if Wis n W then 0 else 2
open Classical in
set_option maxRecDepth 100000 in
theorem checkWishes_pure (n : Nat) (W : Nat → List Int) : APure Try.prog 55 [tabV n W] (fun R => R = .int (wiE n W)) := by
 refine APure_of (X := cx 39) (cx_ok 39) rfl (rs := [(.tmp 2, 29)]) Try.func55 (by decide) rfl rfl rfl (by simp [cx]) (nofr1 nofrT) ?_
 intro hlen
 have bad : ¬ Wis n W → V.int 2 = V.int (wiE n W) := fun h => by unfold wiE; rw [if_neg h]
 have good : Wis n W → V.int 0 = V.int (wiE n W) := fun h => by unfold wiE; rw [if_pos h]
 generalize wiE n W = E at *
 ((conv=>whnf);repeat (refine Wa ?_;(repeat (first|refine Wb ?_|refine Wc ?_|refine Wd ?_|refine We ?_|refine Wf ?_));(conv=>whnf)))
 refine br_dec (fun h1 => ?_) (fun h1 => ?_)
 ·have h1 : (n : Int) < 1 := h1
  ((conv=>whnf);repeat (refine Wa ?_;(repeat (first|refine Wb ?_|refine Wc ?_|refine Wd ?_|refine We ?_|refine Wf ?_));(conv=>whnf)))
  exact ⟨trivial, bad (fun h => by have := h.1; omega)⟩
 have h1 : ¬ (n : Int) < 1 := h1
 ((conv=>whnf);repeat (refine Wa ?_;(repeat (first|refine Wb ?_|refine Wc ?_|refine Wd ?_|refine We ?_|refine Wf ?_));(conv=>whnf)))
 refine br_dec (fun h2 => ?_) (fun h2 => ?_)
 ·have h2 : (n : Int) > 5 := h2
  ((conv=>whnf);repeat (refine Wa ?_;(repeat (first|refine Wb ?_|refine Wc ?_|refine Wd ?_|refine We ?_|refine Wf ?_));(conv=>whnf)))
  exact ⟨trivial, bad (fun h => by have := h.2.1; omega)⟩
 have h2 : ¬ (n : Int) > 5 := h2
 ((conv=>whnf);repeat (refine Wa ?_;(repeat (first|refine Wb ?_|refine Wc ?_|refine Wd ?_|refine We ?_|refine Wf ?_));(conv=>whnf)))
 refine AW_loop (X := cx 39) (cx_ok 39) [0, 3, 14, 15, 16] (fun vs M => ∃ i : Nat, i ≤ n ∧ (∀ q, q < i → (W q).length = n ∧ bet 0 1000 (W q) n ∧ sumL (W q) n = sumL (W 0) n) ∧ vs = [tabV n W, .int n, tabV n W, .int n, .int i] ∧ M = []) (fun vs _ => n - (vs.getD 4 .any).toInt.toNat) ?_ ?_
 ·exact ⟨0, Nat.zero_le _, fun q hq => absurd hq (by omega), rfl, rfl⟩
 rintro vs M ⟨i, hi, hI, rfl, rfl⟩
 ((conv=>whnf);repeat (refine Wa ?_;(repeat (first|refine Wb ?_|refine Wc ?_|refine Wd ?_|refine We ?_|refine Wf ?_));(conv=>whnf)))
 refine br_dec (fun hlt => ?_) (fun hge => ?_)
 ·have hi' : i < n := by omega
  ((conv=>whnf);repeat (refine Wa ?_;(repeat (first|refine Wb ?_|refine Wc ?_|refine Wd ?_|refine We ?_|refine Wf ?_));(conv=>whnf)))
  refine ⟨(show (0 : Int) ≤ (i : Int) by omega), ?_⟩
  refine ⟨(show (i : Int) < (n : Int) by omega), ?_⟩
  ((conv=>whnf);repeat (refine Wa ?_;(repeat (first|refine Wb ?_|refine Wc ?_|refine Wd ?_|refine We ?_|refine Wf ?_));(conv=>whnf)))
  refine AW_draw (X := cx 39) (cx_ok 39) mixed (by kernel_rfl) ?_
  ((conv=>whnf);repeat (refine Wa ?_;(repeat (first|refine Wb ?_|refine Wc ?_|refine Wd ?_|refine We ?_|refine Wf ?_));(conv=>whnf)))
  refine br_ne (fun h3 => ?_) (fun h3 => ?_)
  ·have h3 : ((W i).length : Int) ≠ n := h3
   ((conv=>whnf);repeat (refine Wa ?_;(repeat (first|refine Wb ?_|refine Wc ?_|refine Wd ?_|refine We ?_|refine Wf ?_));(conv=>whnf)))
   exact ⟨trivial, bad (fun h => h3 (by rw [(h.2.2 i hi').1]))⟩
  have h3 : (W i).length = n := by have h3 : ((W i).length : Int) = n := h3; omega
  have c1 := within_pure (W i) 1000
  ((conv=>whnf);repeat (refine Wa ?_;(repeat (first|refine Wb ?_|refine Wc ?_|refine Wd ?_|refine We ?_|refine Wf ?_));(conv=>whnf)))
  refine ⟨_, c1, ?_⟩
  ((conv=>whnf);repeat (refine Wa ?_;(repeat (first|refine Wb ?_|refine Wc ?_|refine Wd ?_|refine We ?_|refine Wf ?_));(conv=>whnf)))
  refine br_not ?_
  refine br_dec (fun h4 => ?_) (fun h4 => ?_)
  ·have c2 := sum_pure (W i) 1000 (by omega) (by omega) h4
   have h0 : (W 0).length = n ∧ bet 0 1000 (W 0) n := by
    rcases Nat.eq_zero_or_pos i with rfl | hp
    ·exact ⟨h3, by rw [h3] at h4; exact h4⟩
    ·exact ⟨(hI 0 hp).1, (hI 0 hp).2.1⟩
   have c3 := sum_pure (W 0) 1000 (by omega) (by omega) (by rw [h0.1]; exact h0.2)
   rw [h3] at c2 h4
   rw [h0.1] at c3
   ((conv=>whnf);repeat (refine Wa ?_;(repeat (first|refine Wb ?_|refine Wc ?_|refine Wd ?_|refine We ?_|refine Wf ?_));(conv=>whnf)))
   refine ⟨_, c2, ?_⟩
   ((conv=>whnf);repeat (refine Wa ?_;(repeat (first|refine Wb ?_|refine Wc ?_|refine Wd ?_|refine We ?_|refine Wf ?_));(conv=>whnf)))
   refine ⟨Int.le_refl _, ?_⟩
   refine ⟨(show (0 : Int) < (n : Int) by omega), ?_⟩
   ((conv=>whnf);repeat (refine Wa ?_;(repeat (first|refine Wb ?_|refine Wc ?_|refine Wd ?_|refine We ?_|refine Wf ?_));(conv=>whnf)))
   refine ⟨_, c3, ?_⟩
   ((conv=>whnf);repeat (refine Wa ?_;(repeat (first|refine Wb ?_|refine Wc ?_|refine Wd ?_|refine We ?_|refine Wf ?_));(conv=>whnf)))
   refine br_ne (fun h5 => ?_) (fun h5 => ?_)
   ·have h5 : sumL (W i) n ≠ sumL (W 0) n := h5
    ((conv=>whnf);repeat (refine Wa ?_;(repeat (first|refine Wb ?_|refine Wc ?_|refine Wd ?_|refine We ?_|refine Wf ?_));(conv=>whnf)))
    exact ⟨trivial, bad (fun h => h5 (h.2.2 i hi').2.2)⟩
   ·have h5 : sumL (W i) n = sumL (W 0) n := h5
    ((conv=>whnf);repeat (refine Wa ?_;(repeat (first|refine Wb ?_|refine Wc ?_|refine Wd ?_|refine We ?_|refine Wf ?_));(conv=>whnf)))
    refine ⟨inr (by omega), ?_⟩
    ((conv=>whnf);repeat (refine Wa ?_;(repeat (first|refine Wb ?_|refine Wc ?_|refine Wd ?_|refine We ?_|refine Wf ?_));(conv=>whnf)))
    refine ⟨⟨i + 1, hi', fun q hq => ?_, rfl, rfl⟩, ?_⟩
    ·rcases (by omega : q < i ∨ q = i) with h6 | rfl
     ·exact hI q h6
     ·exact ⟨h3, h4, h5⟩
    ·simp [V.toInt, sel, Env.get]; omega
  ·((conv=>whnf);repeat (refine Wa ?_;(repeat (first|refine Wb ?_|refine Wc ?_|refine Wd ?_|refine We ?_|refine Wf ?_));(conv=>whnf)))
   exact ⟨trivial, bad (fun h => h4 (by rw [h3]; exact (h.2.2 i hi').2.1))⟩
 ·obtain rfl : i = n := by omega
  ((conv=>whnf);repeat (refine Wa ?_;(repeat (first|refine Wb ?_|refine Wc ?_|refine Wd ?_|refine We ?_|refine Wf ?_));(conv=>whnf)))
  exact ⟨trivial, good ⟨by omega, by omega, hI⟩⟩
open Classical in
noncomputable def reV (n : Nat) (W : Nat → List Int) : V := if Wis n W then tup2 (.int (sumL (W 0) n)) (.bool true) else tup2 (.int 0) (.bool false)
open Classical in
set_option maxRecDepth 100000 in
theorem refRent_pure (n : Nat) (W : Nat → List Int) : APure Try.prog 39 [tabV n W] (fun R => R = reV n W) := by
 refine APure_of (X := cx 72) (cx_ok 72) rfl (rs := [(.tmp 2, 3), (.tmp 3, 4)]) Try.func39 (by decide) rfl rfl rfl (by simp [cx]) (nofr1 nofrT) ?_
 intro hlen
 have bad : ¬ Wis n W → tup2 (.int 0) (.bool false) = reV n W := fun h => by unfold reV; rw [if_neg h]
 have good : Wis n W → tup2 (.int (sumL (W 0) n)) (.bool true) = reV n W := fun h => by unfold reV; rw [if_pos h]
 generalize reV n W = E at *
 ((conv=>whnf);repeat (refine Wa ?_;(repeat (first|refine Wb ?_|refine Wc ?_|refine Wd ?_|refine We ?_|refine Wf ?_));(conv=>whnf)))
 refine br_dec (fun h1 => ?_) (fun h1 => ?_)
 ·have h1 : (n : Int) < 1 := h1
  ((conv=>whnf);repeat (refine Wa ?_;(repeat (first|refine Wb ?_|refine Wc ?_|refine Wd ?_|refine We ?_|refine Wf ?_));(conv=>whnf)))
  exact ⟨trivial, trivial, bad (fun h => by have := h.1; omega)⟩
 have h1 : ¬ (n : Int) < 1 := h1
 ((conv=>whnf);repeat (refine Wa ?_;(repeat (first|refine Wb ?_|refine Wc ?_|refine Wd ?_|refine We ?_|refine Wf ?_));(conv=>whnf)))
 refine br_dec (fun h2 => ?_) (fun h2 => ?_)
 ·have h2 : (n : Int) > 5 := h2
  ((conv=>whnf);repeat (refine Wa ?_;(repeat (first|refine Wb ?_|refine Wc ?_|refine Wd ?_|refine We ?_|refine Wf ?_));(conv=>whnf)))
  exact ⟨trivial, trivial, bad (fun h => by have := h.2.1; omega)⟩
 have h2 : ¬ (n : Int) > 5 := h2
 ((conv=>whnf);repeat (refine Wa ?_;(repeat (first|refine Wb ?_|refine Wc ?_|refine Wd ?_|refine We ?_|refine Wf ?_));(conv=>whnf)))
 refine AW_loop (X := cx 72) (cx_ok 72) [0, 4, 5] (fun vs M => ∃ i : Nat, i ≤ n ∧ (∀ q, q < i → (W q).length = n ∧ bet 0 1000 (W q) n ∧ sumL (W q) n = sumL (W 0) n) ∧ vs = [tabV n W, .int (if i = 0 then 0 else sumL (W 0) n), .int i] ∧ M = []) (fun vs _ => n - (vs.getD 2 .any).toInt.toNat) ?_ ?_
 ·exact ⟨0, Nat.zero_le _, fun q hq => absurd hq (by omega), rfl, rfl⟩
 rintro vs M ⟨i, hi, hI, rfl, rfl⟩
 generalize hr : (if i = 0 then 0 else sumL (W 0) n) = r at *
 ((conv=>whnf);repeat (refine Wa ?_;(repeat (first|refine Wb ?_|refine Wc ?_|refine Wd ?_|refine We ?_|refine Wf ?_));(conv=>whnf)))
 refine br_dec (fun hlt => ?_) (fun hge => ?_)
 ·have hi' : i < n := by omega
  ((conv=>whnf);repeat (refine Wa ?_;(repeat (first|refine Wb ?_|refine Wc ?_|refine Wd ?_|refine We ?_|refine Wf ?_));(conv=>whnf)))
  refine ⟨(show (0 : Int) ≤ (i : Int) by omega), ?_⟩
  refine ⟨(show (i : Int) < (n : Int) by omega), ?_⟩
  ((conv=>whnf);repeat (refine Wa ?_;(repeat (first|refine Wb ?_|refine Wc ?_|refine Wd ?_|refine We ?_|refine Wf ?_));(conv=>whnf)))
  refine br_ne (fun h3 => ?_) (fun h3 => ?_)
  ·have h3 : ((W i).length : Int) ≠ n := h3
   ((conv=>whnf);repeat (refine Wa ?_;(repeat (first|refine Wb ?_|refine Wc ?_|refine Wd ?_|refine We ?_|refine Wf ?_));(conv=>whnf)))
   exact ⟨trivial, trivial, bad (fun h => h3 (by rw [(h.2.2 i hi').1]))⟩
  have h3 : (W i).length = n := by have h3 : ((W i).length : Int) = n := h3; omega
  ((conv=>whnf);repeat (refine Wa ?_;(repeat (first|refine Wb ?_|refine Wc ?_|refine Wd ?_|refine We ?_|refine Wf ?_));(conv=>whnf)))
  refine AW_loop (X := cx 72) (cx_ok 72) [0, 4, 5, 6, 7] (fun vs M => ∃ k : Nat, k ≤ n ∧ bet 0 1000 (W i) k ∧ vs = [tabV n W, .int r, .int i, .int (sumL (W i) k), .int k] ∧ M = []) (fun vs _ => n - (vs.getD 4 .any).toInt.toNat) ?_ ?_
  ·exact ⟨0, Nat.zero_le _, fun q hq => absurd hq (by omega), rfl, rfl⟩
  rintro vs M ⟨k, hk, hb, rfl, rfl⟩
  have sb : 0 ≤ sumL (W i) k ∧ sumL (W i) k ≤ 1000 * k := by
   clear hI hk
   induction k with
   | zero => simp [sumL]
   | succ k ih =>
    have h5 := ih fun j hj => hb j (by omega)
    have h6 := hb k (by omega)
    simp only [sumL]
    omega
  ((conv=>whnf);repeat (refine Wa ?_;(repeat (first|refine Wb ?_|refine Wc ?_|refine Wd ?_|refine We ?_|refine Wf ?_));(conv=>whnf)))
  refine br_dec (fun hlt2 => ?_) (fun hge2 => ?_)
  ·have hk' : k < n := by omega
   have bad2 : ¬ (0 ≤ (W i).getD k 0 ∧ (W i).getD k 0 ≤ 1000) → tup2 (.int 0) (.bool false) = E := fun h => bad fun h5 => h ((h5.2.2 i hi').2.1 k hk')
   ((conv=>whnf);repeat (refine Wa ?_;(repeat (first|refine Wb ?_|refine Wc ?_|refine Wd ?_|refine We ?_|refine Wf ?_));(conv=>whnf)))
   repeat ((first | refine ⟨(show (0 : Int) ≤ (i : Int) by omega), ?_⟩ | refine ⟨(show (i : Int) < (n : Int) by omega), ?_⟩ | refine ⟨(show (0 : Int) ≤ (k : Int) by omega), ?_⟩ | refine ⟨(show (k : Int) < ((W i).length : Int) by omega), ?_⟩); ((conv=>whnf);repeat (refine Wa ?_;(repeat (first|refine Wb ?_|refine Wc ?_|refine Wd ?_|refine We ?_|refine Wf ?_));(conv=>whnf))))
   refine br_dec (fun h4 => ?_) (fun h4 => ?_)
   ·have h4 : (W i).getD k 0 < 0 := h4
    ((conv=>whnf);repeat (refine Wa ?_;(repeat (first|refine Wb ?_|refine Wc ?_|refine Wd ?_|refine We ?_|refine Wf ?_));(conv=>whnf)))
    exact ⟨trivial, trivial, bad2 (by omega)⟩
   have h4 : ¬ (W i).getD k 0 < 0 := h4
   ((conv=>whnf);repeat (refine Wa ?_;(repeat (first|refine Wb ?_|refine Wc ?_|refine Wd ?_|refine We ?_|refine Wf ?_));(conv=>whnf)))
   repeat ((first | refine ⟨(show (0 : Int) ≤ (i : Int) by omega), ?_⟩ | refine ⟨(show (i : Int) < (n : Int) by omega), ?_⟩ | refine ⟨(show (0 : Int) ≤ (k : Int) by omega), ?_⟩ | refine ⟨(show (k : Int) < ((W i).length : Int) by omega), ?_⟩); ((conv=>whnf);repeat (refine Wa ?_;(repeat (first|refine Wb ?_|refine Wc ?_|refine Wd ?_|refine We ?_|refine Wf ?_));(conv=>whnf))))
   refine br_dec (fun h5 => ?_) (fun h5 => ?_)
   ·have h5 : (W i).getD k 0 > 1000 := h5
    ((conv=>whnf);repeat (refine Wa ?_;(repeat (first|refine Wb ?_|refine Wc ?_|refine Wd ?_|refine We ?_|refine Wf ?_));(conv=>whnf)))
    exact ⟨trivial, trivial, bad2 (by omega)⟩
   have h5 : ¬ (W i).getD k 0 > 1000 := h5
   ((conv=>whnf);repeat (refine Wa ?_;(repeat (first|refine Wb ?_|refine Wc ?_|refine Wd ?_|refine We ?_|refine Wf ?_));(conv=>whnf)))
   repeat ((first | refine ⟨(show (0 : Int) ≤ (i : Int) by omega), ?_⟩ | refine ⟨(show (i : Int) < (n : Int) by omega), ?_⟩ | refine ⟨(show (0 : Int) ≤ (k : Int) by omega), ?_⟩ | refine ⟨(show (k : Int) < ((W i).length : Int) by omega), ?_⟩); ((conv=>whnf);repeat (refine Wa ?_;(repeat (first|refine Wb ?_|refine Wc ?_|refine Wd ?_|refine We ?_|refine Wf ?_));(conv=>whnf))))
   refine ⟨(show InR (sumL (W i) k + (W i).getD k 0) from inr (by omega)), ?_⟩
   ((conv=>whnf);repeat (refine Wa ?_;(repeat (first|refine Wb ?_|refine Wc ?_|refine Wd ?_|refine We ?_|refine Wf ?_));(conv=>whnf)))
   refine ⟨inr (by omega), ?_⟩
   ((conv=>whnf);repeat (refine Wa ?_;(repeat (first|refine Wb ?_|refine Wc ?_|refine Wd ?_|refine We ?_|refine Wf ?_));(conv=>whnf)))
   refine ⟨⟨k + 1, hk', fun j hj => ?_, rfl, rfl⟩, ?_⟩
   ·rcases (by omega : j < k ∨ j = k) with h6 | rfl
    ·exact hb j h6
    ·omega
   ·simp [V.toInt, sel, Env.get]; omega
  ·obtain rfl : k = n := by omega
   have step : sumL (W i) k = sumL (W 0) k → ∀ q, q < i + 1 → (W q).length = k ∧ bet 0 1000 (W q) k ∧ sumL (W q) k = sumL (W 0) k := fun h5 q hq => by
    rcases (by omega : q < i ∨ q = i) with h6 | rfl
    ·exact hI q h6
    ·exact ⟨h3, hb, h5⟩
   ((conv=>whnf);repeat (refine Wa ?_;(repeat (first|refine Wb ?_|refine Wc ?_|refine Wd ?_|refine We ?_|refine Wf ?_));(conv=>whnf)))
   refine br_dec (fun h4 => ?_) (fun h4 => ?_)
   ·have h4 : (i : Int) > 0 := h4
    rw [if_neg (by omega)] at hr
    subst hr
    ((conv=>whnf);repeat (refine Wa ?_;(repeat (first|refine Wb ?_|refine Wc ?_|refine Wd ?_|refine We ?_|refine Wf ?_));(conv=>whnf)))
    refine br_ne (fun h5 => ?_) (fun h5 => ?_)
    ·have h5 : sumL (W i) k ≠ sumL (W 0) k := h5
     ((conv=>whnf);repeat (refine Wa ?_;(repeat (first|refine Wb ?_|refine Wc ?_|refine Wd ?_|refine We ?_|refine Wf ?_));(conv=>whnf)))
     exact ⟨trivial, trivial, bad (fun h => h5 (h.2.2 i hi').2.2)⟩
    ·have h5 : sumL (W i) k = sumL (W 0) k := h5
     ((conv=>whnf);repeat (refine Wa ?_;(repeat (first|refine Wb ?_|refine Wc ?_|refine Wd ?_|refine We ?_|refine Wf ?_));(conv=>whnf)))
     refine ⟨inr (by omega), ?_⟩
     ((conv=>whnf);repeat (refine Wa ?_;(repeat (first|refine Wb ?_|refine Wc ?_|refine Wd ?_|refine We ?_|refine Wf ?_));(conv=>whnf)))
     refine ⟨⟨i + 1, hi', step h5, ?_, rfl⟩, ?_⟩
     ·rw [if_neg (by omega), ← h5]; rfl
     ·simp [V.toInt, sel, Env.get]; omega
   ·have h4 : ¬ (i : Int) > 0 := h4
    obtain rfl : i = 0 := by omega
    ((conv=>whnf);repeat (refine Wa ?_;(repeat (first|refine Wb ?_|refine Wc ?_|refine Wd ?_|refine We ?_|refine Wf ?_));(conv=>whnf)))
    refine ⟨inr (by omega), ?_⟩
    ((conv=>whnf);repeat (refine Wa ?_;(repeat (first|refine Wb ?_|refine Wc ?_|refine Wd ?_|refine We ?_|refine Wf ?_));(conv=>whnf)))
    refine ⟨⟨0 + 1, hi', step rfl, ?_, rfl⟩, ?_⟩
    ·rw [if_neg (by omega)]; rfl
    ·simp [V.toInt, sel, Env.get]; omega
 ·obtain rfl : i = n := by omega
  rw [if_neg (by omega)] at hr
  subst hr
  ((conv=>whnf);repeat (refine Wa ?_;(repeat (first|refine Wb ?_|refine Wc ?_|refine Wd ?_|refine We ?_|refine Wf ?_));(conv=>whnf)))
  exact ⟨trivial, trivial, good ⟨by omega, by omega, hI⟩⟩
end Go.Tri
