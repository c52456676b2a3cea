/-
 LISTS OF STREETS AND OF CUTS: ascending lists as sets; mends; lists of cuts that are apart.
-/
import Derived.Test.YtafibngpgllcfaaB12
namespace Go.Tri
open Go.Proofs

theorem or_add5 {x k : Nat} (h : x < 2 ^ k) : x ||| 2 ^ k = x + 2 ^ k := by
 have := Nat.two_pow_add_eq_or_of_lt h 1
 rw [Nat.mul_one] at this
 rw [Nat.or_comm, ← this, Nat.add_comm]
/-- Something of all below k. -/
def allB (p : Nat → Bool) : Nat → Bool
 | 0 => true
 | k + 1 => allB p k && p k
theorem allB_iff {p : Nat → Bool} : ∀ {k : Nat}, allB p k = true ↔ ∀ j, j < k → p j = true := by
 intro k
 induction k with
 | zero => exact ⟨fun _ j h => absurd h (Nat.not_lt_zero _), fun _ => rfl⟩
 | succ k ih =>
  rw [allB, Bool.and_eq_true, ih]
  refine ⟨fun ⟨h1, h2⟩ j hj => ?_, fun h => ⟨fun j hj => h j (by omega), h k (by omega)⟩⟩
  by_cases hjk : j = k
  ·rw [hjk]; exact h2
  ·exact h1 j (by omega)
theorem allB_false {p : Nat → Bool} {k j : Nat} (hj : j < k) (h : p j = false) : allB p k = false := by
 cases h' : allB p k with
 | false => rfl
 | true => rw [allB_iff.1 h' j hj] at h; cases h
/-- Ascending indices of streets. -/
def asP (m : Nat) (l : List Int) (j : Nat) : Bool := decide (0 ≤ l.getD j 0 ∧ l.getD j 0 < m ∧ (0 < j → l.getD (j - 1) 0 < l.getD j 0))
def asB (m : Nat) (l : List Int) (k : Nat) : Bool := allB (asP m l) k
/-- The least that may come next. -/
def nxS (l : List Int) (k : Nat) : Int := if k = 0 then 0 else l.getD (k - 1) 0 + 1
/-- The first k as a set. -/
def stO (l : List Int) : Nat → Nat
 | 0 => 0
 | k + 1 => stO l k ||| 2 ^ (l.getD k 0).toNat
theorem stO_tb (l : List Int) (i : Nat) : ∀ k, (stO l k).testBit i = true ↔ ∃ j, j < k ∧ (l.getD j 0).toNat = i := by
 intro k
 induction k with
 | zero => simp [stO]
 | succ k ih =>
  rw [stO, tb_or_pow, Bool.or_eq_true, ih, decide_eq_true_iff]
  refine ⟨?_, ?_⟩
  ·rintro (⟨j, h1, h2⟩ | h)
   ·exact ⟨j, by omega, h2⟩
   ·exact ⟨k, by omega, h⟩
  ·rintro ⟨j, h1, h2⟩
   by_cases hj : j = k
   ·subst hj; exact .inr h2
   ·exact .inl ⟨j, by omega, h2⟩
theorem asP_iff {m : Nat} {l : List Int} {j : Nat} : asP m l j = true ↔ 0 ≤ l.getD j 0 ∧ l.getD j 0 < m ∧ (0 < j → l.getD (j - 1) 0 < l.getD j 0) := decide_eq_true_iff
theorem as_lt {m : Nat} {l : List Int} {k : Nat} (h : asB m l k = true) : ∀ i j, i < j → j < k → l.getD i 0 < l.getD j 0 := by
 intro i j
 induction j with
 | zero => exact fun h _ => absurd h (Nat.not_lt_zero _)
 | succ j ih =>
  intro hij hj
  have h1 := (asP_iff.1 (allB_iff.1 h (j + 1) hj)).2.2 (by omega)
  rw [Nat.add_sub_cancel] at h1
  by_cases hij' : i = j
  ·rw [hij']; exact h1
  ·have := ih (by omega) (by omega); omega
theorem stO_lt {m : Nat} {l : List Int} : ∀ {k : Nat}, asB m l k = true → stO l k < 2 ^ m ∧ (∀ x : Nat, (∀ j, j < k → l.getD j 0 < x) → stO l k < 2 ^ x) := by
 intro k
 induction k with
 | zero => exact fun _ => ⟨Nat.two_pow_pos m, fun x _ => Nat.two_pow_pos x⟩
 | succ k ih =>
  intro h
  have h0 : asB m l k = true := allB_iff.2 fun j hj => allB_iff.1 h j (by omega)
  have h1 := asP_iff.1 (allB_iff.1 h k (by omega))
  refine ⟨?_, fun x hx => ?_⟩
  ·exact Nat.or_lt_two_pow (ih h0).1 (Nat.pow_lt_pow_right (by decide) (by omega))
  ·have := hx k (by omega)
   exact Nat.or_lt_two_pow ((ih h0).2 x fun j hj => hx j (by omega)) (Nat.pow_lt_pow_right (by decide) (by omega))
theorem stO_add {m : Nat} {l : List Int} {k : Nat} (h : asB m l (k + 1) = true) : stO l (k + 1) = stO l k + 2 ^ (l.getD k 0).toNat := by
 have h0 : asB m l k = true := allB_iff.2 fun j hj => allB_iff.1 h j (by omega)
 have h1 := asP_iff.1 (allB_iff.1 h k (by omega))
 refine or_add5 ((stO_lt h0).2 _ fun j hj => ?_)
 have := as_lt h j k hj (by omega)
 omega
/-- Has a set of streets one of each of the first k cuts? -/
def mtB (m : Nat) (A B : Nat → Nat) (L : List Int) (s : Nat) (k : Nat) : Bool := allB (fun j => !(s &&& lvS A B (L.getD j 0).toNat m == 0)) k
/-- Is a list a mend? -/
def imB (n m : Nat) (A B : Nat → Nat) (l : List Int) : Bool := asB m l l.length && mtB m A B (cutL n m A B (fullN n)) (stO l l.length) (cutL n m A B (fullN n)).length
/-- The streets of the first k cuts. -/
def tkO (m : Nat) (A B : Nat → Nat) (l : List Int) : Nat → Nat
 | 0 => 0
 | k + 1 => tkO m A B l k ||| lvS A B (l.getD k 0).toNat m
def apP (n m : Nat) (A B : Nat → Nat) (l : List Int) (j : Nat) : Bool := cutZ n m A B (l.getD j 0) && (tkO m A B l j &&& lvS A B (l.getD j 0).toNat m == 0)
/-- Are the cuts of a list apart? -/
def apB (n m : Nat) (A B : Nat → Nat) (l : List Int) (k : Nat) : Bool := allB (apP n m A B l) k
theorem tkO_lt {m : Nat} {A B : Nat → Nat} (l : List Int) : ∀ k, tkO m A B l k < 2 ^ m := by
 intro k
 induction k with
 | zero => exact Nat.two_pow_pos m
 | succ k ih => exact Nat.or_lt_two_pow ih (lvS_lt A B _ m)
end Go.Tri
