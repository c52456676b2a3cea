/-
  THE TWO ORDERS ARE ONE; what is worth nothing comes last.
-/
import Derived.Test.YtghkpmeonoadlaaB19
namespace Go.Tri
open Go.Proofs

theorem cmpI_zero {a b : Int} : cmpI a b = 0 ↔ a = b := by unfold cmpI; split <;> (try split) <;> omega
theorem min1 {x : Int} (h : 0 ≤ x) : minI 1 x = if x = 0 then 0 else 1 := by unfold minI; split <;> (try split) <;> omega
theorem crI_neg {a b c d : Int} (ha : 0 ≤ a) (hb : 0 ≤ b) (hc : 0 ≤ c) (hd : 0 ≤ d) : crI a b c d < 0 ↔ (c + d = 0 ∧ a + b ≠ 0) ∨ ((c + d = 0 ↔ a + b = 0) ∧ c * b < a * d) := by
  unfold crI
  rw [min1 (show 0 ≤ c + d by omega), min1 (show 0 ≤ a + b by omega)]
  by_cases h : cmpI (if c + d = 0 then 0 else 1) (if a + b = 0 then 0 else 1) = 0
  · rw [if_pos h, cmpI_neg]
    rw [cmpI_zero] at h
    constructor
    · intro h2
      refine .inr ⟨?_, h2⟩
      split at h <;> split at h <;> omega
    · rintro (⟨h2, h3⟩ | ⟨_, h2⟩)
      · rw [if_pos h2, if_neg h3] at h
        omega
      · exact h2
  · rw [if_neg h, cmpI_neg]
    rw [cmpI_zero] at h
    constructor
    · intro h2
      left
      split at h2 <;> split at h2 <;> omega
    · rintro (⟨h2, h3⟩ | ⟨h2, _⟩)
      · rw [if_pos h2, if_neg h3]; omega
      · exfalso
        split at h <;> split at h <;> omega
theorem bef_cr {a b c d : Int} (ha : 0 ≤ a) (hb : 0 ≤ b) (hc : 0 ≤ c) (hd : 0 ≤ d) : befB a b c d false = decide (crI a b c d < 0) := by
  rw [Bool.eq_iff_iff, decide_eq_true_iff, crI_neg ha hb hc hd]
  rcases (by omega : a = 0 ∨ 0 < a) with rfl | h1 <;> rcases (by omega : b = 0 ∨ 0 < b) with rfl | h2 <;> rcases (by omega : c = 0 ∨ 0 < c) with rfl | h3 <;> rcases (by omega : d = 0 ∨ 0 < d) with rfl | h4
  all_goals
    have e1 := fun (x y : Int) (hx : 0 < x) (hy : 0 < y) => Int.mul_pos hx hy
    unfold befB kindI
  all_goals simp_all
  all_goals try have p1 := e1 _ _ h1 h4
  all_goals try have p2 := e1 _ _ h3 h2
  all_goals clear e1
  all_goals first | omega | (split <;> omega) | (split <;> split <;> omega) | (split <;> split <;> split <;> omega) | skip
end Go.Tri
