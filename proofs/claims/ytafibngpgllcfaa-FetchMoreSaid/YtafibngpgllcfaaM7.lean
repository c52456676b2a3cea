/-
 THE ORDER OF LISTS: slices.Compare's, a total order.
-/
import Derived.Test.YtafibngpgllcfaaA36
import Derived.Sort.Statements
import Derived.Shelf.SlSortCmp.Insertion
namespace Go.Tri
open Go.Proofs

def cmpI (a b : Int) : Int := if a < b then -1 else if a > b then 1 else 0
def cmpL : List Int → List Int → Int
 | [], [] => 0
 | [], _ :: _ => -1
 | _ :: _, [] => 1
 | a :: r, b :: q => if cmpI a b ≠ 0 then cmpI a b else cmpL r q
theorem cmpI_zero {a b : Int} : cmpI a b = 0 ↔ a = b := by
 unfold cmpI
 by_cases h : a < b
 ·rw [if_pos h]; omega
 ·rw [if_neg h]
  by_cases h2 : a > b
  ·rw [if_pos h2]; omega
  ·rw [if_neg h2]; omega
theorem cmpI_neg {a b : Int} : cmpI a b < 0 ↔ a < b := by
 unfold cmpI
 by_cases h : a < b
 ·rw [if_pos h]; omega
 ·rw [if_neg h]
  by_cases h2 : a > b
  ·rw [if_pos h2]; omega
  ·rw [if_neg h2]; omega
theorem cmpL_self : ∀ a, cmpL a a = 0
 | [] => rfl
 | a :: r => by
  rw [cmpL, if_neg (by rw [Classical.not_not]; exact cmpI_zero.2 rfl)]
  exact cmpL_self r
theorem cmpL_cons {a b : Int} {r q : List Int} : cmpL (a :: r) (b :: q) < 0 ↔ a < b ∨ a = b ∧ cmpL r q < 0 := by
 rw [cmpL]
 by_cases h : a = b
 ·rw [if_neg (by rw [Classical.not_not]; exact cmpI_zero.2 h)]
  constructor
  ·exact fun h2 => .inr ⟨h, h2⟩
  ·rintro (h2 | h2)
   ·omega
   ·exact h2.2
 ·rw [if_pos (fun h2 => h (cmpI_zero.1 h2)), cmpI_neg]
  constructor
  ·exact fun h2 => .inl h2
  ·rintro (h2 | h2)
   ·exact h2
   ·exact absurd h2.1 h
theorem cmpL_irrefl (a : List Int) : ¬ cmpL a a < 0 := by rw [cmpL_self]; omega
theorem cmpL_trans : ∀ a b c, cmpL a b < 0 → cmpL b c < 0 → cmpL a c < 0
 | [], [], _, h, _ => by simp [cmpL] at h
 | [], _ :: _, [], _, h => by simp [cmpL] at h
 | [], _ :: _, _ :: _, _, _ => by simp [cmpL]
 | _ :: _, [], _, h, _ => by simp [cmpL] at h
 | _ :: _, _ :: _, [], _, h => by simp [cmpL] at h
 | a :: r, b :: q, c :: s, h, h' => by
  rw [cmpL_cons] at h h' ⊢
  rcases h with h | h <;> rcases h' with h' | h'
  ·exact .inl (by omega)
  ·exact .inl (by omega)
  ·exact .inl (by omega)
  ·exact .inr ⟨by omega, cmpL_trans r q s h.2 h'.2⟩
theorem cmpL_total : ∀ a b, cmpL a b < 0 ∨ a = b ∨ cmpL b a < 0
 | [], [] => .inr (.inl rfl)
 | [], _ :: _ => .inl (by simp [cmpL])
 | _ :: _, [] => .inr (.inr (by simp [cmpL]))
 | a :: r, b :: q => by
  rw [cmpL_cons, cmpL_cons]
  rcases cmpL_total r q with h | h | h
  ·by_cases h1 : a = b
   ·exact .inl (.inr ⟨h1, h⟩)
   ·by_cases h2 : a < b
    ·exact .inl (.inl h2)
    ·exact .inr (.inr (.inl (by omega)))
  ·by_cases h1 : a = b
   ·exact .inr (.inl (by rw [h1, h]))
   ·by_cases h2 : a < b
    ·exact .inl (.inl h2)
    ·exact .inr (.inr (.inl (by omega)))
  ·by_cases h1 : a = b
   ·exact .inr (.inr (.inr ⟨h1.symm, h⟩))
   ·by_cases h2 : a < b
    ·exact .inl (.inl h2)
    ·exact .inr (.inr (.inl (by omega)))
theorem cmpL_swo : Go.Sort.SWO (ltOf cmpL) where
 irrefl x := decide_eq_false (cmpL_irrefl x)
 trans x y z h1 h2 := decide_eq_true (cmpL_trans x y z (of_decide_eq_true h1) (of_decide_eq_true h2))
 ntrans x y z h1 h2 := by
  have h1 := of_decide_eq_false h1
  have h2 := of_decide_eq_false h2
  refine decide_eq_false fun h3 => ?_
  rcases cmpL_total x y with h | h | h
  ·exact h1 h
  ·subst h; exact h2 h3
  ·exact h2 (cmpL_trans y x z h h3)
/-- Two least ones are the same. -/
theorem cmpL_anti {a b : List Int} (h1 : ¬ cmpL a b < 0) (h2 : ¬ cmpL b a < 0) : a = b := by
 rcases cmpL_total a b with h | h | h
 ·exact absurd h h1
 ·exact h
 ·exact absurd h h2
theorem drop_cons {l : List Int} {k : Nat} (h : k < l.length) : l.drop k = l.getD k 0 :: l.drop (k + 1) := by
 rw [List.drop_eq_getElem_cons h]
 simp [List.getD, h]
theorem cmpL_step {a b : List Int} {k : Nat} (ha : k < a.length) (hb : k < b.length) : cmpL (a.drop k) (b.drop k) = if cmpI (a.getD k 0) (b.getD k 0) ≠ 0 then cmpI (a.getD k 0) (b.getD k 0) else cmpL (a.drop (k + 1)) (b.drop (k + 1)) := by
 rw [drop_cons ha, drop_cons hb, cmpL]
theorem cmpL_long {a b : List Int} {k : Nat} (ha : k < a.length) (hb : b.length ≤ k) : cmpL (a.drop k) (b.drop k) = 1 := by
 rw [drop_cons ha, List.drop_of_length_le hb]
 rfl
theorem cmpL_end {a b : List Int} {k : Nat} (ha : a.length ≤ k) : cmpL (a.drop k) (b.drop k) = if k < b.length then -1 else 0 := by
 rw [List.drop_of_length_le ha]
 by_cases h : k < b.length
 ·rw [if_pos h, drop_cons h]
  rfl
 ·rw [if_neg h, List.drop_of_length_le (by omega)]
  rfl
end Go.Tri
