/-
 CUTS: the streets that lead out of a set, the cuts and their list, what a set has.
-/
import Derived.Test.YtafibngpgllcfaaM1
namespace Go.Tri
open Go.Proofs

/-- The streets that lead out of a set. -/
def lvS (A B : Nat → Nat) (s : Nat) : Nat → Nat
 | 0 => 0
 | k + 1 => if (s.testBit (A k) && !s.testBit (B k)) = true then lvS A B s k ||| 2 ^ k else lvS A B s k
theorem lvS_tb (A B : Nat → Nat) (s : Nat) : ∀ k i, (lvS A B s k).testBit i = (decide (i < k) && (s.testBit (A i) && !s.testBit (B i))) := by
 intro k
 induction k with
 | zero => intro i; simp [lvS]
 | succ k ih =>
  intro i
  simp only [lvS]
  by_cases hik : i = k
  ·subst hik
   split
   ·next h => rw [tb_or_pow, ih]; simp [h]
   ·next h =>
    rw [ih]
    have h : (s.testBit (A i) && !s.testBit (B i)) = false := by simpa using h
    rw [h]
    simp
  ·have e : decide (i < k + 1) = decide (i < k) := decide_eq_decide.2 ⟨fun h => by omega, fun h => by omega⟩
   rw [e]
   split
   ·rw [tb_or_pow, ih, show decide (k = i) = false from decide_eq_false (Ne.symm hik), Bool.or_false]
   ·exact ih i
theorem lvS_lt (A B : Nat → Nat) (s : Nat) : ∀ k, lvS A B s k < 2 ^ k := by
 intro k
 induction k with
 | zero => exact Nat.zero_lt_one
 | succ k ih =>
  simp only [lvS]
  have h2 : 2 ^ k ≤ 2 ^ (k + 1) := Nat.pow_le_pow_right (by decide) (Nat.le_succ k)
  split
  ·exact Nat.or_lt_two_pow (Nat.lt_of_lt_of_le ih h2) (Nat.pow_lt_pow_right (by decide) (Nat.lt_succ_self k))
  ·exact Nat.lt_of_lt_of_le ih h2
theorem lt63 {x k : Nat} (h : x < 2 ^ k) (hk : k ≤ 62) : x < 9223372036854775808 := Nat.lt_of_lt_of_le h (Nat.le_trans (Nat.pow_le_pow_right (by decide) hk) (by decide))
theorem eq0_iff {x : Nat} : x = 0 ↔ ∀ i, x.testBit i = false := ⟨fun h i => by rw [h, Nat.zero_testBit], fun h => Nat.eq_of_testBit_eq fun i => by rw [h, Nat.zero_testBit]⟩
theorem tb_big {s n i : Nat} (h : s < 2 ^ n) (hi : n ≤ i) : s.testBit i = false := Nat.testBit_lt_two_pow (Nat.lt_of_lt_of_le h (Nat.pow_le_pow_right (by decide) hi))
theorem dif_full_tb {n s i : Nat} : (dif (fullN n) s).testBit i = (decide (i < n) && !s.testBit i) := by rw [dif_tb, fullN_tb]

theorem take_succ_getD (l : List Int) (k : Nat) (h : k < l.length) : l.take (k + 1) = l.take k ++ [l.getD k 0] := by
 rw [List.take_add_one]; simp [List.getD, h]
theorem getD_mem {L : List Int} {i : Nat} (h : i < L.length) : L.getD i 0 ∈ L := by
 rw [show L.getD i 0 = L[i] by simp [List.getD, List.getElem?_eq_getElem h]]
 exact List.getElem_mem h

/-- Is it a cut? -/
def cutB (n m : Nat) (A B : Nat → Nat) (s : Nat) : Bool := decide (0 < s) && (decide (s < fullN n) && (lvS A B (dif (fullN n) s) m == 0))
theorem cutB_iff {n m : Nat} {A B : Nat → Nat} (hA : ∀ j, j < m → A j < n) (hB : ∀ j, j < m → B j < n) {s : Nat} : cutB n m A B s = true ↔ 0 < s ∧ s < fullN n ∧ ∀ j, j < m → s.testBit (B j) = true → s.testBit (A j) = true := by
 unfold cutB
 rw [Bool.and_eq_true, Bool.and_eq_true, decide_eq_true_iff, decide_eq_true_iff, beq_iff_eq, eq0_iff]
 refine ⟨fun ⟨h1, h2, h3⟩ => ⟨h1, h2, fun j hj hb => ?_⟩, fun ⟨h1, h2, h3⟩ => ⟨h1, h2, fun i => ?_⟩⟩
 ·have := h3 j
  rw [lvS_tb, dif_full_tb, dif_full_tb] at this
  simp only [hj, hA j hj, hB j hj, decide_true, Bool.true_and, hb, Bool.not_true, Bool.not_false, Bool.and_true] at this
  simpa using this
 ·rw [lvS_tb, dif_full_tb, dif_full_tb]
  by_cases hi : i < m
  ·have := h3 i hi
   simp only [hi, hA i hi, hB i hi, decide_true, Bool.true_and]
   cases hb : s.testBit (B i) with
   | true => rw [this hb]; rfl
   | false => simp
  ·simp [hi]
/-- The cuts below k. -/
def cutL (n m : Nat) (A B : Nat → Nat) : Nat → List Int
 | 0 => []
 | k + 1 => if cutB n m A B k = true then cutL n m A B k ++ [(k : Int)] else cutL n m A B k
theorem cutL_mem {n m : Nat} {A B : Nat → Nat} {x : Int} : ∀ k, x ∈ cutL n m A B k ↔ ∃ s : Nat, s < k ∧ cutB n m A B s = true ∧ x = s := by
 intro k
 induction k with
 | zero => simp [cutL]
 | succ k ih =>
  simp only [cutL]
  split
  ·next h =>
   rw [List.mem_append, ih, List.mem_singleton]
   refine ⟨?_, ?_⟩
   ·rintro (⟨s, h1, h2, h3⟩ | h1)
    ·exact ⟨s, by omega, h2, h3⟩
    ·exact ⟨k, by omega, h, h1⟩
   ·rintro ⟨s, h1, h2, h3⟩
    by_cases hs : s = k
    ·subst hs; exact .inr h3
    ·exact .inl ⟨s, by omega, h2, h3⟩
  ·next h =>
   rw [ih]
   refine ⟨fun ⟨s, h1, h2⟩ => ⟨s, by omega, h2⟩, fun ⟨s, h1, h2, h3⟩ => ⟨s, ?_, h2, h3⟩⟩
   by_cases hs : s = k
   ·subst hs; exact absurd h2 h
   ·omega
theorem cutL_len {n m : Nat} {A B : Nat → Nat} : ∀ k, (cutL n m A B k).length ≤ k := by
 intro k
 induction k with
 | zero => exact Nat.le_refl _
 | succ k ih =>
  simp only [cutL]
  split
  ·rw [List.length_append]; exact Nat.succ_le_succ ih
  ·omega
/-- Ascending. -/
theorem cutL_asc {n m : Nat} {A B : Nat → Nat} : ∀ k i j, i < j → j < (cutL n m A B k).length → (cutL n m A B k).getD i 0 < (cutL n m A B k).getD j 0 := by
 intro k
 induction k with
 | zero => intro i j _ h; exact absurd h (Nat.not_lt_zero _)
 | succ k ih =>
  intro i j hij hj
  simp only [cutL] at hj ⊢
  split at hj
  ·next h =>
   rw [if_pos h]
   rw [List.length_append] at hj
   have hj : j < (cutL n m A B k).length + 1 := hj
   have hi : i < (cutL n m A B k).length := by omega
   rw [show (cutL n m A B k ++ [(k : Int)]).getD i 0 = (cutL n m A B k).getD i 0 by simp [List.getD, List.getElem?_append_left hi]]
   by_cases hjl : j < (cutL n m A B k).length
   ·rw [show (cutL n m A B k ++ [(k : Int)]).getD j 0 = (cutL n m A B k).getD j 0 by simp [List.getD, List.getElem?_append_left hjl]]
    exact ih i j hij hjl
   ·obtain rfl : j = (cutL n m A B k).length := by omega
    rw [show (cutL n m A B k ++ [(k : Int)]).getD (cutL n m A B k).length 0 = (k : Int) by simp [List.getD]]
    obtain ⟨s, h1, _, h3⟩ := (cutL_mem (n := n) (m := m) (A := A) (B := B) k).1 (getD_mem hi)
    rw [h3]
    omega
  ·next h =>
   rw [if_neg h]
   exact ih i j hij hj
/-- What a set has, below k. -/
def mbL (s : Nat) : Nat → List Int
 | 0 => []
 | k + 1 => if s.testBit k = true then mbL s k ++ [(k : Int)] else mbL s k
theorem mbL_len (s : Nat) : ∀ k, (mbL s k).length ≤ k := by
 intro k
 induction k with
 | zero => exact Nat.le_refl _
 | succ k ih =>
  simp only [mbL]
  split
  ·rw [List.length_append]; exact Nat.succ_le_succ ih
  ·omega
theorem mbL_more {s n : Nat} (h : s < 2 ^ n) : ∀ k, mbL s (n + k) = mbL s n := by
 intro k
 induction k with
 | zero => rfl
 | succ k ih =>
  rw [← Nat.add_assoc]
  simp only [mbL]
  rw [if_neg (by rw [tb_big h (by omega)]; simp)]
  exact ih
theorem mbL_mem {s : Nat} {x : Int} : ∀ k, x ∈ mbL s k ↔ ∃ i : Nat, i < k ∧ s.testBit i = true ∧ x = i := by
 intro k
 induction k with
 | zero => simp [mbL]
 | succ k ih =>
  simp only [mbL]
  split
  ·next h =>
   rw [List.mem_append, ih, List.mem_singleton]
   refine ⟨?_, ?_⟩
   ·rintro (⟨s, h1, h2, h3⟩ | h1)
    ·exact ⟨s, by omega, h2, h3⟩
    ·exact ⟨k, by omega, h, h1⟩
   ·rintro ⟨t, h1, h2, h3⟩
    by_cases hs : t = k
    ·subst hs; exact .inr h3
    ·exact .inl ⟨t, by omega, h2, h3⟩
  ·next h =>
   rw [ih]
   refine ⟨fun ⟨s, h1, h2⟩ => ⟨s, by omega, h2⟩, fun ⟨t, h1, h2, h3⟩ => ⟨t, ?_, h2, h3⟩⟩
   by_cases hs : t = k
   ·subst hs; exact absurd h2 h
   ·omega
end Go.Tri
