/-
 CONTRACTS: slices.Compare, and the specification's 'less'.
-/
import Derived.Test.YtafibngpgllcfaaB24
import Derived.Test.YtafibngpgllcfaaM7
namespace Go.Tri
open Go.Proofs

theorem isNaN_pure (a : Int) : APure Try.prog 110 [.int a] (fun R => R = .bool false) := by
 refine APure_of (X := cx 6) (cx_ok 6) rfl (rs := [(.tmp 2, 4)]) Try.func110 (by decide) rfl rfl rfl (by simp [cx]) (by simp [NoFr]) ?_
 intro _
 ((conv=>whnf);repeat (refine Wa ?_;(repeat (first|refine Wb ?_|refine Wc ?_|refine Wd ?_|refine We ?_|refine Wf ?_));(conv=>whnf)))
 refine ⟨trivial, Qb ?_⟩
 simp
theorem Compare_pure (a b : Int) : APure Try.prog 92 [.int a, .int b] (fun R => R = .int (cmpI a b)) := by
 refine APure_of (X := cx 20) (cx_ok 20) rfl (rs := [(.tmp 4, 3)]) Try.func92 (by decide) rfl rfl rfl (by simp [cx]) (by simp [NoFr]) ?_
 intro _
 have c1 := isNaN_pure a
 have c2 := isNaN_pure b
 unfold cmpI
 ((conv=>whnf);repeat (refine Wa ?_;(repeat (first|refine Wb ?_|refine Wc ?_|refine Wd ?_|refine We ?_|refine Wf ?_));(conv=>whnf)))
 refine APure.to c1 ?_
 ((conv=>whnf);repeat (refine Wa ?_;(repeat (first|refine Wb ?_|refine Wc ?_|refine Wd ?_|refine We ?_|refine Wf ?_));(conv=>whnf)))
 refine APure.to c2 ?_
 ((conv=>whnf);repeat (refine Wa ?_;(repeat (first|refine Wb ?_|refine Wc ?_|refine Wd ?_|refine We ?_|refine Wf ?_));(conv=>whnf)))
 refine br_dec (fun h => ?_) (fun h => ?_)
 ·have h : a < b := h
  ((conv=>whnf);repeat (refine Wa ?_;(repeat (first|refine Wb ?_|refine Wc ?_|refine Wd ?_|refine We ?_|refine Wf ?_));(conv=>whnf)))
  exact ⟨trivial, Qi (if_pos h).symm⟩
 have h : ¬ a < b := h
 ((conv=>whnf);repeat (refine Wa ?_;(repeat (first|refine Wb ?_|refine Wc ?_|refine Wd ?_|refine We ?_|refine Wf ?_));(conv=>whnf)))
 refine br_dec (fun h2 => ?_) (fun h2 => ?_)
 ·have h2 : a > b := h2
  ((conv=>whnf);repeat (refine Wa ?_;(repeat (first|refine Wb ?_|refine Wc ?_|refine Wd ?_|refine We ?_|refine Wf ?_));(conv=>whnf)))
  exact ⟨trivial, Qi ((if_neg h).trans (if_pos h2)).symm⟩
 ·have h2 : ¬ a > b := h2
  ((conv=>whnf);repeat (refine Wa ?_;(repeat (first|refine Wb ?_|refine Wc ?_|refine Wd ?_|refine We ?_|refine Wf ?_));(conv=>whnf)))
  exact ⟨trivial, Qi ((if_neg h).trans (if_neg h2)).symm⟩
set_option maxRecDepth 100000 in
theorem CompareL_pure (a b : List Int) : APure Try.prog 76 [.ints false a, .ints false b] (fun R => R = .int (cmpL a b)) := by
 refine APure_of (X := cx 36) (cx_ok 36) rfl (rs := [(.tmp 4, 3)]) Try.func76 (by decide) rfl rfl rfl (by simp [cx]) (by simp [NoFr]) ?_
 intro hlen
 have hla : (a.length : Int) ≤ 9223372036854775807 := hlen (.ints false a) (by simp)
 ((conv=>whnf);repeat (refine Wa ?_;(repeat (first|refine Wb ?_|refine Wc ?_|refine Wd ?_|refine We ?_|refine Wf ?_));(conv=>whnf)))
 refine AW_loop (X := cx 36) (cx_ok 36) [0, 1, 9, 10, 11] (fun vs M => ∃ k : Nat, k ≤ a.length ∧ (k ≤ b.length) ∧ cmpL a b = cmpL (a.drop k) (b.drop k) ∧ vs = [.ints false a, .ints false b, .ints false a, .int a.length, .int k] ∧ M = []) (fun vs _ => a.length - (vs.getD 4 .any).toInt.toNat) ?_ ?_
 ·exact ⟨0, Nat.zero_le _, Nat.zero_le _, rfl, rfl, rfl⟩
 rintro vs M ⟨k, hk, hkb, e, rfl, rfl⟩
 ((conv=>whnf);repeat (refine Wa ?_;(repeat (first|refine Wb ?_|refine Wc ?_|refine Wd ?_|refine We ?_|refine Wf ?_));(conv=>whnf)))
 refine br_dec (fun hlt => ?_) (fun hge => ?_)
 ·have hk' : k < a.length := by omega
  ((conv=>whnf);repeat (refine Wa ?_;(repeat (first|refine Wb ?_|refine Wc ?_|refine Wd ?_|refine We ?_|refine Wf ?_));(conv=>whnf)))
  repeat ((first | refine ⟨by omega, ?_⟩ | refine ⟨inr (by omega), ?_⟩ | refine eqn_self ?_ | refine ⟨ms (by omega), ?_⟩ | refine ⟨ms (by simp only [Src.n]; omega), ?_⟩ | refine ⟨msk (by omega), ?_⟩ | refine ⟨ms1, ?_⟩); ((conv=>whnf);repeat (refine Wa ?_;(repeat (first|refine Wb ?_|refine Wc ?_|refine Wd ?_|refine We ?_|refine Wf ?_));(conv=>whnf))))
  rw [Int.toNat_natCast]
  refine br_dec (fun h1 => ?_) (fun h1 => ?_)
  ·have h1 : (k : Int) ≥ b.length := h1
   rw [cmpL_long hk' (by omega)] at e
   ((conv=>whnf);repeat (refine Wa ?_;(repeat (first|refine Wb ?_|refine Wc ?_|refine Wd ?_|refine We ?_|refine Wf ?_));(conv=>whnf)))
   exact ⟨trivial, Qi e.symm⟩
  have h1 : ¬ (k : Int) ≥ b.length := h1
  have c1 := Compare_pure (a.getD k 0) (b.getD k 0)
  rw [cmpL_step hk' (by omega)] at e
  ((conv=>whnf);repeat (refine Wa ?_;(repeat (first|refine Wb ?_|refine Wc ?_|refine Wd ?_|refine We ?_|refine Wf ?_));(conv=>whnf)))
  repeat ((first | refine ⟨by omega, ?_⟩ | refine ⟨inr (by omega), ?_⟩ | refine eqn_self ?_ | refine ⟨ms (by omega), ?_⟩ | refine ⟨ms (by simp only [Src.n]; omega), ?_⟩ | refine ⟨msk (by omega), ?_⟩ | refine ⟨ms1, ?_⟩); ((conv=>whnf);repeat (refine Wa ?_;(repeat (first|refine Wb ?_|refine Wc ?_|refine Wd ?_|refine We ?_|refine Wf ?_));(conv=>whnf))))
  rw [Int.toNat_natCast]
  refine APure.to c1 ?_
  ((conv=>whnf);repeat (refine Wa ?_;(repeat (first|refine Wb ?_|refine Wc ?_|refine Wd ?_|refine We ?_|refine Wf ?_));(conv=>whnf)))
  refine br_ne (fun h2 => ?_) (fun h2 => ?_)
  ·have h2 : cmpI (a.getD k 0) (b.getD k 0) ≠ 0 := h2
   rw [if_pos h2] at e
   ((conv=>whnf);repeat (refine Wa ?_;(repeat (first|refine Wb ?_|refine Wc ?_|refine Wd ?_|refine We ?_|refine Wf ?_));(conv=>whnf)))
   exact ⟨trivial, Qi e.symm⟩
  ·have h2 : cmpI (a.getD k 0) (b.getD k 0) = 0 := h2
   rw [if_neg (by rw [Classical.not_not]; exact h2)] at e
   ((conv=>whnf);repeat (refine Wa ?_;(repeat (first|refine Wb ?_|refine Wc ?_|refine Wd ?_|refine We ?_|refine Wf ?_));(conv=>whnf)))
   refine ⟨inr (by omega), ?_⟩
   ((conv=>whnf);repeat (refine Wa ?_;(repeat (first|refine Wb ?_|refine Wc ?_|refine Wd ?_|refine We ?_|refine Wf ?_));(conv=>whnf)))
   exact ⟨⟨k + 1, hk', by omega, e, rfl, rfl⟩, by simp [V.toInt, sel, Env.get]; omega⟩
 ·obtain rfl : k = a.length := by omega
  rw [cmpL_end (Nat.le_refl _)] at e
  ((conv=>whnf);repeat (refine Wa ?_;(repeat (first|refine Wb ?_|refine Wc ?_|refine Wd ?_|refine We ?_|refine Wf ?_));(conv=>whnf)))
  refine br_dec (fun h1 => ?_) (fun h1 => ?_)
  ·have h1 : (a.length : Int) < b.length := h1
   rw [if_pos (by omega)] at e
   ((conv=>whnf);repeat (refine Wa ?_;(repeat (first|refine Wb ?_|refine Wc ?_|refine Wd ?_|refine We ?_|refine Wf ?_));(conv=>whnf)))
   exact ⟨trivial, Qi e.symm⟩
  ·have h1 : ¬ (a.length : Int) < b.length := h1
   rw [if_neg (by omega)] at e
   ((conv=>whnf);repeat (refine Wa ?_;(repeat (first|refine Wb ?_|refine Wc ?_|refine Wd ?_|refine We ?_|refine Wf ?_));(conv=>whnf)))
   exact ⟨trivial, Qi e.symm⟩
set_option maxRecDepth 100000 in
theorem less_pure (a b : List Int) : APure Try.prog 77 [.ints false a, .ints false b] (fun R => R = .bool (decide (cmpL a b < 0))) := by
 refine APure_of (X := cx 41) (cx_ok 41) rfl (rs := [(.tmp 4, 4)]) Try.func77 (by decide) rfl rfl rfl (by simp [cx]) (by simp [NoFr]) ?_
 intro hlen
 have hla : (a.length : Int) ≤ 9223372036854775807 := hlen (.ints false a) (by simp)
 ((conv=>whnf);repeat (refine Wa ?_;(repeat (first|refine Wb ?_|refine Wc ?_|refine Wd ?_|refine We ?_|refine Wf ?_));(conv=>whnf)))
 refine AW_loop (X := cx 41) (cx_ok 41) [0, 1, 5] (fun vs M => ∃ k : Nat, k ≤ a.length ∧ (k ≤ b.length) ∧ cmpL a b = cmpL (a.drop k) (b.drop k) ∧ vs = [.ints false a, .ints false b, .int k] ∧ M = []) (fun vs _ => a.length - (vs.getD 2 .any).toInt.toNat) ?_ ?_
 ·exact ⟨0, Nat.zero_le _, Nat.zero_le _, rfl, rfl, rfl⟩
 rintro vs M ⟨k, hk, hkb, e, rfl, rfl⟩
 have fin : ¬ (k < a.length ∧ k < b.length) → decide ((a.length : Int) < b.length) = decide (cmpL a b < 0) := fun h => by
  rw [e]
  by_cases ha : k < a.length
  ·rw [cmpL_long ha (by omega)]
   exact decide_eq_decide.2 (by omega)
  ·rw [cmpL_end (by omega)]
   split
   ·exact decide_eq_decide.2 (by omega)
   ·exact decide_eq_decide.2 (by omega)
 ((conv=>whnf);repeat (refine Wa ?_;(repeat (first|refine Wb ?_|refine Wc ?_|refine Wd ?_|refine We ?_|refine Wf ?_));(conv=>whnf)))
 refine br_dec (fun hlt => ?_) (fun hge => ?_)
 ·have hk' : k < a.length := by have : (k : Int) < a.length := hlt; omega
  ((conv=>whnf);repeat (refine Wa ?_;(repeat (first|refine Wb ?_|refine Wc ?_|refine Wd ?_|refine We ?_|refine Wf ?_));(conv=>whnf)))
  refine br_dec (fun hlt2 => ?_) (fun hge2 => ?_)
  ·have hk2 : k < b.length := by have : (k : Int) < b.length := hlt2; omega
   rw [cmpL_step hk' hk2] at e
   ((conv=>whnf);repeat (refine Wa ?_;(repeat (first|refine Wb ?_|refine Wc ?_|refine Wd ?_|refine We ?_|refine Wf ?_));(conv=>whnf)))
   refine AW_draw (X := cx 41) (cx_ok 41) mixed (by kernel_rfl) ?_
   ((conv=>whnf);repeat (refine Wa ?_;(repeat (first|refine Wb ?_|refine Wc ?_|refine Wd ?_|refine We ?_|refine Wf ?_));(conv=>whnf)))
   repeat ((first | refine ⟨by omega, ?_⟩ | refine ⟨inr (by omega), ?_⟩ | refine eqn_self ?_ | refine ⟨ms (by omega), ?_⟩ | refine ⟨ms (by simp only [Src.n]; omega), ?_⟩ | refine ⟨msk (by omega), ?_⟩ | refine ⟨ms1, ?_⟩); ((conv=>whnf);repeat (refine Wa ?_;(repeat (first|refine Wb ?_|refine Wc ?_|refine Wd ?_|refine We ?_|refine Wf ?_));(conv=>whnf))))
   rw [Int.toNat_natCast]
   refine br_ne (fun h => ?_) (fun h => ?_)
   ·have h : a.getD k 0 ≠ b.getD k 0 := h
    rw [if_pos (fun h2 => h (cmpI_zero.1 h2))] at e
    ((conv=>whnf);repeat (refine Wa ?_;(repeat (first|refine Wb ?_|refine Wc ?_|refine Wd ?_|refine We ?_|refine Wf ?_));(conv=>whnf)))
    refine AW_draw (X := cx 41) (cx_ok 41) mixed (by kernel_rfl) ?_
    ((conv=>whnf);repeat (refine Wa ?_;(repeat (first|refine Wb ?_|refine Wc ?_|refine Wd ?_|refine We ?_|refine Wf ?_));(conv=>whnf)))
    repeat ((first | refine ⟨by omega, ?_⟩ | refine ⟨inr (by omega), ?_⟩ | refine eqn_self ?_ | refine ⟨ms (by omega), ?_⟩ | refine ⟨ms (by simp only [Src.n]; omega), ?_⟩ | refine ⟨msk (by omega), ?_⟩ | refine ⟨ms1, ?_⟩); ((conv=>whnf);repeat (refine Wa ?_;(repeat (first|refine Wb ?_|refine Wc ?_|refine Wd ?_|refine We ?_|refine Wf ?_));(conv=>whnf))))
    refine ⟨trivial, Qb ?_⟩
    rw [e, Int.toNat_natCast]
    exact decide_eq_decide.2 cmpI_neg.symm
   ·have h : a.getD k 0 = b.getD k 0 := h
    rw [if_neg (by rw [Classical.not_not]; exact cmpI_zero.2 h)] at e
    ((conv=>whnf);repeat (refine Wa ?_;(repeat (first|refine Wb ?_|refine Wc ?_|refine Wd ?_|refine We ?_|refine Wf ?_));(conv=>whnf)))
    refine ⟨inr (by omega), ?_⟩
    ((conv=>whnf);repeat (refine Wa ?_;(repeat (first|refine Wb ?_|refine Wc ?_|refine Wd ?_|refine We ?_|refine Wf ?_));(conv=>whnf)))
    exact ⟨⟨k + 1, hk', hk2, e, rfl, rfl⟩, by simp [V.toInt, sel, Env.get]; omega⟩
  ·have hk2 : ¬ k < b.length := by have : ¬ (k : Int) < b.length := hge2; omega
   ((conv=>whnf);repeat (refine Wa ?_;(repeat (first|refine Wb ?_|refine Wc ?_|refine Wd ?_|refine We ?_|refine Wf ?_));(conv=>whnf)))
   exact ⟨trivial, Qb (fin (by omega))⟩
 ·have hk' : ¬ k < a.length := by have : ¬ (k : Int) < a.length := hge; omega
  ((conv=>whnf);repeat (refine Wa ?_;(repeat (first|refine Wb ?_|refine Wc ?_|refine Wd ?_|refine We ?_|refine Wf ?_));(conv=>whnf)))
  exact ⟨trivial, Qb (fin (by omega))⟩
end Go.Tri
