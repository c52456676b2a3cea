/-
 THE FIRST GREATEST OF A LIST; sets of rickshaws as numbers.
-/
import Derived.Test.YtpolaegggclhcaaM12
namespace Go.Tri
open Go.Proofs

/-- The first one of the greatest. -/
def FG (h : List Int → Int) (L : List (List Int)) (b : List Int) : Prop := ∃ j, j < L.length ∧ L.getD j [] = b ∧ (∀ i, i < L.length → h (L.getD i []) ≤ h b) ∧ ∀ i, i < j → h (L.getD i []) < h b
theorem FG.uniq {h : List Int → Int} {L : List (List Int)} {b c : List Int} (h1 : FG h L b) (h2 : FG h L c) : b = c := by
 obtain ⟨i, i1, i2, i3, i4⟩ := h1
 obtain ⟨j, j1, j2, j3, j4⟩ := h2
 rcases (by omega : i = j ∨ i < j ∨ j < i) with rfl | h | h
 ·exact i2.symm.trans j2
 ·have := j4 i h
  have := i3 j j1
  rw [i2] at *
  rw [j2] at *
  omega
 ·have := i4 j h
  have := j3 i i1
  rw [i2] at *
  rw [j2] at *
  omega
theorem getD_appL {A B : List (List Int)} (j : Nat) : (A ++ B).getD j [] = if j < A.length then A.getD j [] else B.getD (j - A.length) [] := by
 simp only [List.getD, List.getElem?_append]
 split <;> rfl
theorem FG.app {h : List Int → Int} {A B : List (List Int)} {b c : List Int} (h1 : FG h A b) (h2 : FG h B c) : FG h (A ++ B) (if h c > h b then c else b) := by
 obtain ⟨i, i1, i2, i3, i4⟩ := h1
 obtain ⟨j, j1, j2, j3, j4⟩ := h2
 by_cases hc : h c > h b
 ·rw [if_pos hc]
  refine ⟨A.length + j, by rw [List.length_append]; omega, ?_, fun k hk => ?_, fun k hk => ?_⟩
  ·rw [getD_appL, if_neg (by omega), show A.length + j - A.length = j by omega, j2]
  ·rw [getD_appL]
   rw [List.length_append] at hk
   split
   ·have := i3 k (by assumption); omega
   ·exact j3 _ (by omega)
  ·rw [getD_appL]
   split
   ·have := i3 k (by assumption); omega
   ·exact j4 _ (by omega)
 ·rw [if_neg hc]
  refine ⟨i, by rw [List.length_append]; omega, ?_, fun k hk => ?_, fun k hk => ?_⟩
  ·rw [getD_appL, if_pos i1, i2]
  ·rw [getD_appL]
   rw [List.length_append] at hk
   split
   ·exact i3 k (by assumption)
   ·have := j3 (k - A.length) (by omega); omega
  ·rw [getD_appL, if_pos (by omega)]
   exact i4 k hk
theorem FG.one {h : List Int → Int} {b : List Int} : FG h [b] b := ⟨0, by simp, rfl, fun i hi => by
 have hi : i < 1 := hi
 obtain rfl : i = 0 := by omega
 exact Int.le_refl _, fun i hi => absurd hi (by omega)⟩
theorem FG.ex {h : List Int → Int} {L : List (List Int)} (hne : L ≠ []) : ∃ b, FG h L b := by
 have hp : 1 ≤ L.length := by
  rcases Nat.eq_zero_or_pos L.length with h | h
  ·exact absurd (List.length_eq_zero_iff.1 h) hne
  ·exact h
 obtain ⟨g1, g2, g3⟩ := mxI_is (fun j => h (L.getD j [])) L.length hp
 exact ⟨_, _, g1, rfl, g2, g3⟩
theorem FG.mem {h : List Int → Int} {L : List (List Int)} {b : List Int} (h1 : FG h L b) : b ∈ L := by
 obtain ⟨i, i1, i2, _⟩ := h1
 rw [← i2]
 exact getD_memL i1
theorem asB_FG {n : Nat} (W : Nat → List Int) : FG (fun l => wrS W l n) (asg n n []) (asB n W) := by
 have hne : 1 ≤ (asg n n []).length := by
  have := asg_ne (n := n) n [] (by simp)
  rcases Nat.eq_zero_or_pos (asg n n []).length with h | h
  ·exact absurd (List.length_eq_zero_iff.1 h) this
  ·exact h
 obtain ⟨g1, g2, g3⟩ := mxI_is (fun j => wrS W ((asg n n []).getD j []) n) (asg n n []).length hne
 exact ⟨_, g1, rfl, g2, g3⟩
/-- Which of the first five are in a set. -/
def Use (u : Nat) (l : List Int) : Prop := u < 32 ∧ ∀ k : Nat, k < 5 → (u / 2 ^ k % 2 = 1 ↔ (k : Int) ∈ l)
theorem use_nil : Use 0 [] := ⟨by decide, fun k hk => by simp⟩
theorem or_facts : ∀ u : Nat, u < 32 → ∀ k : Nat, k < 5 → (u ||| 2 ^ k) < 32 ∧ bitI .or .i64 (u : Int) ((2 ^ k : Nat) : Int) = ((u ||| 2 ^ k : Nat) : Int) ∧ ∀ j : Nat, j < 5 → ((u ||| 2 ^ k) / 2 ^ j % 2 = 1 ↔ (u / 2 ^ j % 2 = 1 ∨ j = k)) := by decide +kernel
theorem use_next {u k : Nat} {l : List Int} (h : Use u l) (hk : k < 5) : Use (u ||| 2 ^ k) (l ++ [(k : Int)]) := by
 obtain ⟨h1, h2⟩ := h
 obtain ⟨o1, _, o3⟩ := or_facts u h1 k hk
 refine ⟨o1, fun j hj => ?_⟩
 rw [o3 j hj, h2 j hj, List.mem_append, List.mem_singleton]
 constructor
 ·rintro (h | h)
  ·exact .inl h
  ·exact .inr (by omega)
 ·rintro (h | h)
  ·exact .inl h
  ·exact .inr (by omega)
end Go.Tri
