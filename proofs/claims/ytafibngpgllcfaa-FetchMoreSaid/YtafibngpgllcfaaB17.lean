/-
 CONTRACTS: the error of a quarter, as the specification has it.
-/
import Derived.Test.YtafibngpgllcfaaB15
import Derived.Test.YtafibngpgllcfaaB16
namespace Go.Tri
open Go.Proofs

theorem ckE_lim0 {n : Int} {m : Nat} {A B : Nat → Int} (h : ¬ (2 ≤ n ∧ n ≤ 7)) : ckE n m A B = 2 := by
 unfold ckE chE
 simp only [chF, kpB, brk]
 simp [h]
theorem ckE_lim1 {n : Int} {m : Nat} {A B : Nat → Int} (h : 2 ≤ n ∧ n ≤ 7) (h1 : ¬ (m : Int) ≤ 14) : ckE n m A B = 3 := by
 unfold ckE chE
 simp only [chF, kpB, brk]
 simp [h, h1]
theorem ckE_join {n : Int} {m : Nat} {A B : Nat → Int} (h : 2 ≤ n ∧ n ≤ 7) (h1 : (m : Int) ≤ 14) (h2 : joinB n m A B = false) : ckE n m A B = 2 := by
 unfold ckE chE
 simp only [chF, kpB, brk]
 simp [h, h1, h2]
theorem ckE_con {n : Int} {m : Nat} {A B : Nat → Int} (h : 2 ≤ n ∧ n ≤ 7) (h1 : (m : Int) ≤ 14) (h2 : joinB n m A B = true) : ckE n m A B = if conB n.toNat m (clN m A) (clN m B) = true then 0 else 9 := by
 unfold ckE chE
 simp only [chF, kpB, brk]
 simp [h, h1, h2]
theorem jn_true {n a b : Int} : jn n a b = true ↔ (0 ≤ a ∧ a < n) ∧ (0 ≤ b ∧ b < n) ∧ a ≠ b := decide_eq_true_iff
theorem joinB_false {n : Int} {m k : Nat} {A B : Nat → Int} (hk : k < m) (h : ¬ ((0 ≤ A k ∧ A k < n) ∧ (0 ≤ B k ∧ B k < n) ∧ A k ≠ B k)) : joinB n m A B = false := by
 cases h' : joinB n m A B with
 | false => rfl
 | true => exact absurd (joinB_iff.1 h' k hk) h
set_option maxRecDepth 100000 in
set_option maxHeartbeats 1000000 in
theorem Quarter_pure (n : Int) (m : Nat) (A B : Nat → Int) : APure Try.prog 40 [.int n, stV false m A B] (fun R => R = .int (ckE n m A B)) := by
 refine APure_of (X := cx 72) (cx_ok 72) rfl (rs := [(.tmp 4, 26)]) Try.func40 (by decide) rfl rfl rfl (by simp [cx]) (nofrN2) ?_
 intro hlen
 have hl : (m : Int) ≤ 9223372036854775807 := hlen (stV false m A B) (by simp)
 have bad : ¬ (2 ≤ n ∧ n ≤ 7) → (2 : Int) = ckE n m A B := fun h => (ckE_lim0 h).symm
 ((conv=>whnf);repeat (refine Wa ?_;(repeat (first|refine Wb ?_|refine Wc ?_|refine Wd ?_|refine We ?_|refine Wf ?_));(conv=>whnf)))
 refine br_dec (fun h => ?_) (fun h => ?_)
 ·have h : n < 2 := h
  ((conv=>whnf);repeat (refine Wa ?_;(repeat (first|refine Wb ?_|refine Wc ?_|refine Wd ?_|refine We ?_|refine Wf ?_));(conv=>whnf)))
  exact ⟨trivial, Qi (bad (by omega))⟩
 have h : ¬ n < 2 := h
 ((conv=>whnf);repeat (refine Wa ?_;(repeat (first|refine Wb ?_|refine Wc ?_|refine Wd ?_|refine We ?_|refine Wf ?_));(conv=>whnf)))
 refine br_dec (fun h' => ?_) (fun h' => ?_)
 ·have h' : n > 7 := h'
  ((conv=>whnf);repeat (refine Wa ?_;(repeat (first|refine Wb ?_|refine Wc ?_|refine Wd ?_|refine We ?_|refine Wf ?_));(conv=>whnf)))
  exact ⟨trivial, Qi (bad (by omega))⟩
 have h' : ¬ n > 7 := h'
 clear bad
 have h0 : 2 ≤ n ∧ n ≤ 7 := by omega
 ((conv=>whnf);repeat (refine Wa ?_;(repeat (first|refine Wb ?_|refine Wc ?_|refine Wd ?_|refine We ?_|refine Wf ?_));(conv=>whnf)))
 refine br_dec (fun h1 => ?_) (fun h1 => ?_)
 ·have h1 : (m : Int) > 14 := h1
  ((conv=>whnf);repeat (refine Wa ?_;(repeat (first|refine Wb ?_|refine Wc ?_|refine Wd ?_|refine We ?_|refine Wf ?_));(conv=>whnf)))
  exact ⟨trivial, Qi (ckE_lim1 h0 (by omega)).symm⟩
 have h1 : ¬ (m : Int) > 14 := h1
 have h1' : (m : Int) ≤ 14 := by omega
 ((conv=>whnf);repeat (refine Wa ?_;(repeat (first|refine Wb ?_|refine Wc ?_|refine Wd ?_|refine We ?_|refine Wf ?_));(conv=>whnf)))
 refine AW_loop (X := cx 72) (cx_ok 72) [0, 1, 5] (fun vs M => ∃ k : Nat, k ≤ m ∧ (∀ j, j < k → (0 ≤ A j ∧ A j < n) ∧ (0 ≤ B j ∧ B j < n) ∧ A j ≠ B j) ∧ vs = [.int n, stV false m A B, .int k] ∧ M = []) (fun vs _ => m - (vs.getD 2 .any).toInt.toNat) ?_ ?_
 ·exact ⟨0, Nat.zero_le _, fun j hj => absurd hj (Nat.not_lt_zero _), rfl, rfl⟩
 rintro vs M ⟨k, hk, hj, rfl, rfl⟩
 ((conv=>whnf);repeat (refine Wa ?_;(repeat (first|refine Wb ?_|refine Wc ?_|refine Wd ?_|refine We ?_|refine Wf ?_));(conv=>whnf)))
 refine br_dec (fun hlt => ?_) (fun hge => ?_)
 ·have hk' : k < m := by omega
  have bad : ¬ ((0 ≤ A k ∧ A k < n) ∧ (0 ≤ B k ∧ B k < n) ∧ A k ≠ B k) → (2 : Int) = ckE n m A B := fun h => (ckE_join h0 h1' (joinB_false hk' h)).symm
  ((conv=>whnf);repeat (refine Wa ?_;(repeat (first|refine Wb ?_|refine Wc ?_|refine Wd ?_|refine We ?_|refine Wf ?_));(conv=>whnf)))
  refine AW_draw (X := cx 72) (cx_ok 72) mixed (by kernel_rfl) ?_
  ((conv=>whnf);repeat (refine Wa ?_;(repeat (first|refine Wb ?_|refine Wc ?_|refine Wd ?_|refine We ?_|refine Wf ?_));(conv=>whnf)))
  repeat ((first | refine ⟨by omega, ?_⟩ | refine ⟨inr (by omega), ?_⟩ | refine eqn_self ?_ | refine ⟨ms (by omega), ?_⟩ | refine ⟨ms (by simp only [Src.n]; omega), ?_⟩ | refine ⟨msk (by omega), ?_⟩ | refine ⟨ms1, ?_⟩); ((conv=>whnf);repeat (refine Wa ?_;(repeat (first|refine Wb ?_|refine Wc ?_|refine Wd ?_|refine We ?_|refine Wf ?_));(conv=>whnf))))
  rw [Int.toNat_natCast]
  refine br_dec (fun a1 => ?_) (fun a1 => ?_)
  ·have a1 : A k < 0 := a1
   ((conv=>whnf);repeat (refine Wa ?_;(repeat (first|refine Wb ?_|refine Wc ?_|refine Wd ?_|refine We ?_|refine Wf ?_));(conv=>whnf)))
   exact ⟨trivial, Qi (bad (by omega))⟩
  have a1 : ¬ A k < 0 := a1
  ((conv=>whnf);repeat (refine Wa ?_;(repeat (first|refine Wb ?_|refine Wc ?_|refine Wd ?_|refine We ?_|refine Wf ?_));(conv=>whnf)))
  repeat ((first | refine ⟨by omega, ?_⟩ | refine ⟨inr (by omega), ?_⟩ | refine eqn_self ?_ | refine ⟨ms (by omega), ?_⟩ | refine ⟨ms (by simp only [Src.n]; omega), ?_⟩ | refine ⟨msk (by omega), ?_⟩ | refine ⟨ms1, ?_⟩); ((conv=>whnf);repeat (refine Wa ?_;(repeat (first|refine Wb ?_|refine Wc ?_|refine Wd ?_|refine We ?_|refine Wf ?_));(conv=>whnf))))
  rw [Int.toNat_natCast]
  refine br_dec (fun a2 => ?_) (fun a2 => ?_)
  ·have a2 : A k ≥ n := a2
   ((conv=>whnf);repeat (refine Wa ?_;(repeat (first|refine Wb ?_|refine Wc ?_|refine Wd ?_|refine We ?_|refine Wf ?_));(conv=>whnf)))
   exact ⟨trivial, Qi (bad (by omega))⟩
  have a2 : ¬ A k ≥ n := a2
  ((conv=>whnf);repeat (refine Wa ?_;(repeat (first|refine Wb ?_|refine Wc ?_|refine Wd ?_|refine We ?_|refine Wf ?_));(conv=>whnf)))
  repeat ((first | refine ⟨by omega, ?_⟩ | refine ⟨inr (by omega), ?_⟩ | refine eqn_self ?_ | refine ⟨ms (by omega), ?_⟩ | refine ⟨ms (by simp only [Src.n]; omega), ?_⟩ | refine ⟨msk (by omega), ?_⟩ | refine ⟨ms1, ?_⟩); ((conv=>whnf);repeat (refine Wa ?_;(repeat (first|refine Wb ?_|refine Wc ?_|refine Wd ?_|refine We ?_|refine Wf ?_));(conv=>whnf))))
  rw [Int.toNat_natCast]
  refine br_dec (fun a3 => ?_) (fun a3 => ?_)
  ·have a3 : B k < 0 := a3
   ((conv=>whnf);repeat (refine Wa ?_;(repeat (first|refine Wb ?_|refine Wc ?_|refine Wd ?_|refine We ?_|refine Wf ?_));(conv=>whnf)))
   exact ⟨trivial, Qi (bad (by omega))⟩
  have a3 : ¬ B k < 0 := a3
  ((conv=>whnf);repeat (refine Wa ?_;(repeat (first|refine Wb ?_|refine Wc ?_|refine Wd ?_|refine We ?_|refine Wf ?_));(conv=>whnf)))
  repeat ((first | refine ⟨by omega, ?_⟩ | refine ⟨inr (by omega), ?_⟩ | refine eqn_self ?_ | refine ⟨ms (by omega), ?_⟩ | refine ⟨ms (by simp only [Src.n]; omega), ?_⟩ | refine ⟨msk (by omega), ?_⟩ | refine ⟨ms1, ?_⟩); ((conv=>whnf);repeat (refine Wa ?_;(repeat (first|refine Wb ?_|refine Wc ?_|refine Wd ?_|refine We ?_|refine Wf ?_));(conv=>whnf))))
  rw [Int.toNat_natCast]
  refine br_dec (fun a4 => ?_) (fun a4 => ?_)
  ·have a4 : B k ≥ n := a4
   ((conv=>whnf);repeat (refine Wa ?_;(repeat (first|refine Wb ?_|refine Wc ?_|refine Wd ?_|refine We ?_|refine Wf ?_));(conv=>whnf)))
   exact ⟨trivial, Qi (bad (by omega))⟩
  have a4 : ¬ B k ≥ n := a4
  ((conv=>whnf);repeat (refine Wa ?_;(repeat (first|refine Wb ?_|refine Wc ?_|refine Wd ?_|refine We ?_|refine Wf ?_));(conv=>whnf)))
  repeat ((first | refine ⟨by omega, ?_⟩ | refine ⟨inr (by omega), ?_⟩ | refine eqn_self ?_ | refine ⟨ms (by omega), ?_⟩ | refine ⟨ms (by simp only [Src.n]; omega), ?_⟩ | refine ⟨msk (by omega), ?_⟩ | refine ⟨ms1, ?_⟩); ((conv=>whnf);repeat (refine Wa ?_;(repeat (first|refine Wb ?_|refine Wc ?_|refine Wd ?_|refine We ?_|refine Wf ?_));(conv=>whnf))))
  rw [Int.toNat_natCast]
  refine br_eq (fun a5 => ?_) (fun a5 => ?_)
  ·have a5 : A k = B k := a5
   ((conv=>whnf);repeat (refine Wa ?_;(repeat (first|refine Wb ?_|refine Wc ?_|refine Wd ?_|refine We ?_|refine Wf ?_));(conv=>whnf)))
   exact ⟨trivial, Qi (bad (by omega))⟩
  have a5 : A k ≠ B k := a5
  ((conv=>whnf);repeat (refine Wa ?_;(repeat (first|refine Wb ?_|refine Wc ?_|refine Wd ?_|refine We ?_|refine Wf ?_));(conv=>whnf)))
  refine ⟨inr (by omega), ?_⟩
  ((conv=>whnf);repeat (refine Wa ?_;(repeat (first|refine Wb ?_|refine Wc ?_|refine Wd ?_|refine We ?_|refine Wf ?_));(conv=>whnf)))
  refine ⟨⟨k + 1, hk', fun j hj1 => ?_, rfl, rfl⟩, by simp [V.toInt, sel, Env.get]; omega⟩
  by_cases hjk : j = k
  ·subst hjk
   exact ⟨by omega, by omega, a5⟩
  ·exact hj j (by omega)
 ·obtain rfl : k = m := by omega
  have hJ : joinB n k A B = true := joinB_iff.2 hj
  have e := ckE_con h0 h1' hJ
  obtain ⟨N, rfl⟩ : ∃ N : Nat, n = N := ⟨n.toNat, by omega⟩
  have eA : ∀ j, j < k → A j = (clN k A j : Nat) := fun j hj2 => (clN_eq hj2 (hj j hj2).1.1).symm
  have eB : ∀ j, j < k → B j = (clN k B j : Nat) := fun j hj2 => (clN_eq hj2 (hj j hj2).2.1.1).symm
  have hQ : Qn N k (clN k A) (clN k B) := ⟨by omega, by omega, by omega, fun j hj2 => by have := eA j hj2; have := (hj j hj2).1.2; omega, fun j hj2 => by have := eB j hj2; have := (hj j hj2).2.1.2; omega⟩
  have c1 := reached_pure hQ true 0 (by omega)
  rw [Int.toNat_natCast] at e
  have hp := pow_le62 (show N ≤ 62 by omega)
  have hp0 : 0 < 2 ^ N := Nat.two_pow_pos N
  ((conv=>whnf);repeat (refine Wa ?_;(repeat (first|refine Wb ?_|refine Wc ?_|refine Wd ?_|refine We ?_|refine Wf ?_));(conv=>whnf)))
  refine AW_draw (X := cx 72) (cx_ok 72) mixed (by kernel_rfl) ?_
  ((conv=>whnf);repeat (refine Wa ?_;(repeat (first|refine Wb ?_|refine Wc ?_|refine Wd ?_|refine We ?_|refine Wf ?_));(conv=>whnf)))
  refine ⟨_, APure.arg3 (sub_seq fun j q hj2 _ => Sub.of ?_) (Sub.refl _) (Sub.refl _) c1, ?_⟩
  ·unfold raS
   split
   ·exact congrArg V.int (eA j hj2)
   ·exact congrArg V.int (eB j hj2)
  ((conv=>whnf);repeat (refine Wa ?_;(repeat (first|refine Wb ?_|refine Wc ?_|refine Wd ?_|refine We ?_|refine Wf ?_));(conv=>whnf)))
  refine ⟨by omega, ?_⟩
  rw [shlI (by omega)]
  ((conv=>whnf);repeat (refine Wa ?_;(repeat (first|refine Wb ?_|refine Wc ?_|refine Wd ?_|refine We ?_|refine Wf ?_));(conv=>whnf)))
  refine ⟨inr (by omega), ?_⟩
  have eq1 : conB N k (clN k A) (clN k B) = decide (((rcN N k (clN k A) (clN k B) true 0 : Nat) : Int) = ((2 ^ N : Nat) : Int) - 1) := by
   unfold conB rcN fullN
   rw [if_pos rfl, show ((2 ^ N - 1 : Nat) : Int) = ((2 ^ N : Nat) : Int) - 1 by omega]
   rfl
  ((conv=>whnf);repeat (refine Wa ?_;(repeat (first|refine Wb ?_|refine Wc ?_|refine Wd ?_|refine We ?_|refine Wf ?_));(conv=>whnf)))
  refine br_ne (fun hne => ?_) (fun heq => ?_)
  ·rw [eq1, decide_eq_false hne, if_neg (by simp)] at e
   ((conv=>whnf);repeat (refine Wa ?_;(repeat (first|refine Wb ?_|refine Wc ?_|refine Wd ?_|refine We ?_|refine Wf ?_));(conv=>whnf)))
   exact ⟨trivial, Qi e.symm⟩
  ·rw [eq1, decide_eq_true heq, if_pos rfl] at e
   ((conv=>whnf);repeat (refine Wa ?_;(repeat (first|refine Wb ?_|refine Wc ?_|refine Wd ?_|refine We ?_|refine Wf ?_));(conv=>whnf)))
   exact ⟨trivial, Qi e.symm⟩
end Go.Tri
