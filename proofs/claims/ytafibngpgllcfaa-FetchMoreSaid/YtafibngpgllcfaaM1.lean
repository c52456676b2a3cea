/-
 WALKS: the set of all corners that a walk meets (the program's walker).
-/
import Derived.Test.YtafibngpgllcfaaB1
namespace Go.Tri
open Go.Proofs

/-- All of s is in t. -/
def SubB (s t : Nat) : Prop := ∀ i, s.testBit i = true → t.testBit i = true
theorem SubB.refl (s : Nat) : SubB s s := fun _ h => h
theorem SubB.trans {s t u : Nat} (h : SubB s t) (h' : SubB t u) : SubB s u := fun i hi => h' i (h i hi)
theorem tb_or_pow (s c i : Nat) : (s ||| 2 ^ c).testBit i = (s.testBit i || decide (c = i)) := by
 rw [Nat.testBit_or, Nat.testBit_two_pow]
/-- How many of the first n corners are not in s. -/
def unv (s : Nat) : Nat → Nat
 | 0 => 0
 | n + 1 => unv s n + if s.testBit n = true then 0 else 1
theorem unv_le {s t : Nat} (h : SubB s t) : ∀ n, unv t n ≤ unv s n := by
 intro n
 induction n with
 | zero => exact Nat.le_refl _
 | succ n ih =>
  simp only [unv]
  by_cases h1 : s.testBit n = true
  ·rw [if_pos h1, if_pos (h n h1)]
   omega
  ·rw [if_neg h1]
   split <;> omega
theorem unv_lt {s t c : Nat} (h : SubB s t) (hs : s.testBit c = false) (ht : t.testBit c = true) : ∀ n, c < n → unv t n < unv s n := by
 intro n
 induction n with
 | zero => exact fun h => absurd h (Nat.not_lt_zero _)
 | succ n ih =>
  intro hc
  simp only [unv]
  by_cases hcn : c = n
  ·subst hcn
   rw [if_pos ht, if_neg (by rw [hs]; simp)]
   have := unv_le h c
   omega
  ·have := ih (by omega)
   by_cases h1 : s.testBit n = true
   ·rw [if_pos h1, if_pos (h n h1)]
    omega
   ·rw [if_neg h1]
    split <;> omega
theorem unv_zero {s : Nat} : ∀ n, unv s n = 0 → ∀ i, i < n → s.testBit i = true := by
 intro n
 induction n with
 | zero => exact fun _ i h => absurd h (Nat.not_lt_zero _)
 | succ n ih =>
  intro h i hi
  simp only [unv] at h
  by_cases h1 : s.testBit n = true
  ·by_cases hin : i = n
   ·rw [hin]
    exact h1
   ·exact ih (by omega) i (by omega)
  ·rw [if_neg h1] at h
   omega
theorem unv_le_n (s : Nat) : ∀ n, unv s n ≤ n := by
 intro n
 induction n with
 | zero => exact Nat.le_refl _
 | succ n ih =>
  simp only [unv]
  split <;> omega

/-- The walk from a corner, of a depth. -/
def wk (A B : Nat → Nat) (m : Nat) : Nat → Nat → Nat → Nat
 | 0, s, _ => s
 | f + 1, s, c => if s.testBit c = true then s else (List.range m).foldl (fun t j => if A j = c then wk A B m f t (B j) else t) (s ||| 2 ^ c)
/-- Its loop, behind k streets. -/
def wkS (A B : Nat → Nat) (m f s c k : Nat) : Nat := (List.range k).foldl (fun t j => if A j = c then wk A B m f t (B j) else t) (s ||| 2 ^ c)
theorem wk_succ (A B : Nat → Nat) (m f s c : Nat) : wk A B m (f + 1) s c = if s.testBit c = true then s else wkS A B m f s c m := rfl
theorem wkS_zero (A B : Nat → Nat) (m f s c : Nat) : wkS A B m f s c 0 = s ||| 2 ^ c := rfl
theorem wkS_succ (A B : Nat → Nat) (m f s c k : Nat) : wkS A B m f s c (k + 1) = if A k = c then wk A B m f (wkS A B m f s c k) (B k) else wkS A B m f s c k := by
 unfold wkS
 rw [List.range_succ, List.foldl_append]
 rfl
theorem wk_sub (A B : Nat → Nat) (m : Nat) : ∀ f s c, SubB s (wk A B m f s c) := by
 intro f
 induction f with
 | zero => exact fun s c => SubB.refl s
 | succ f ih =>
  intro s c
  rw [wk_succ]
  split
  ·exact SubB.refl s
  ·have : ∀ k, SubB s (wkS A B m f s c k) := by
    intro k
    induction k with
    | zero =>
     intro i hi
     rw [wkS_zero, tb_or_pow, hi]
     rfl
    | succ k ihk =>
     rw [wkS_succ]
     split
     ·exact ihk.trans (ih _ _)
     ·exact ihk
   exact this m
theorem wkS_sub (A B : Nat → Nat) (m f s c k : Nat) : SubB (s ||| 2 ^ c) (wkS A B m f s c k) := by
 induction k with
 | zero => exact SubB.refl _
 | succ k ih =>
  rw [wkS_succ]
  split
  ·exact ih.trans (wk_sub A B m f _ _)
  ·exact ih
theorem wk_lt {A B : Nat → Nat} {m n : Nat} (hB : ∀ j, j < m → B j < n) : ∀ f s c, s < 2 ^ n → c < n → wk A B m f s c < 2 ^ n := by
 intro f
 induction f with
 | zero => exact fun s c hs _ => hs
 | succ f ih =>
  intro s c hs hc
  rw [wk_succ]
  split
  ·exact hs
  ·have : ∀ k, k ≤ m → wkS A B m f s c k < 2 ^ n := by
    intro k
    induction k with
    | zero => exact fun _ => Nat.or_lt_two_pow hs (Nat.pow_lt_pow_right (by decide) hc)
    | succ k ihk =>
     intro hk
     rw [wkS_succ]
     split
     ·exact ih _ _ (ihk (by omega)) (hB k (by omega))
     ·exact ihk (by omega)
   exact this m (Nat.le_refl _)
/-- A walk that is deep enough meets its corner, and what streets lead to from what it has met anew. -/
theorem wk_closed {A B : Nat → Nat} {m n : Nat} (hB : ∀ j, j < m → B j < n) : ∀ f s c, c < n → unv s n ≤ f →
  (wk A B m f s c).testBit c = true ∧ ∀ j, j < m → (wk A B m f s c).testBit (A j) = true → s.testBit (A j) = false → (wk A B m f s c).testBit (B j) = true := by
 intro f
 induction f with
 | zero =>
  intro s c hc hu
  refine ⟨(show s.testBit c = true from unv_zero n (by omega) c hc), fun j _ h1 h2 => ?_⟩
  rw [show wk A B m 0 s c = s from rfl, h2] at h1
  exact absurd h1 (by simp)
 | succ f ih =>
  intro s c hc hu
  rw [wk_succ]
  by_cases hsc : s.testBit c = true
  ·rw [if_pos hsc]
   exact ⟨hsc, fun j _ h1 h2 => by rw [h2] at h1; exact absurd h1 (by simp)⟩
  ·rw [if_neg hsc]
   have hs1 : SubB s (s ||| 2 ^ c) := fun i hi => by rw [tb_or_pow, hi]; rfl
   have hc1 : (s ||| 2 ^ c).testBit c = true := by rw [tb_or_pow]; simp
   have hu1 : unv (s ||| 2 ^ c) n ≤ f := by
    have := unv_lt hs1 (by simpa using hsc) hc1 n hc
    omega
   have inv : ∀ k, k ≤ m → (∀ j, j < m → (wkS A B m f s c k).testBit (A j) = true → (s ||| 2 ^ c).testBit (A j) = false → (wkS A B m f s c k).testBit (B j) = true) ∧ (∀ j, j < k → A j = c → (wkS A B m f s c k).testBit (B j) = true) := by
    intro k
    induction k with
    | zero => exact fun _ => ⟨fun j _ h1 h2 => by rw [wkS_zero, h2] at h1; exact absurd h1 (by simp), fun j h => absurd h (Nat.not_lt_zero _)⟩
    | succ k ihk =>
     intro hk
     obtain ⟨i1, i2⟩ := ihk (by omega)
     rw [wkS_succ]
     by_cases hA : A k = c
     ·rw [if_pos hA]
      have hsub := wk_sub A B m f (wkS A B m f s c k) (B k)
      have hv := Nat.le_trans (unv_le (wkS_sub A B m f s c k) n) hu1
      obtain ⟨j1, j2⟩ := ih (wkS A B m f s c k) (B k) (hB k (by omega)) hv
      refine ⟨fun j hj h1 h2 => ?_, fun j hj h1 => ?_⟩
      ·by_cases h3 : (wkS A B m f s c k).testBit (A j) = true
       ·exact hsub _ (i1 j hj h3 h2)
       ·exact j2 j hj h1 (by simpa using h3)
      ·by_cases hjk : j = k
       ·rw [hjk]
        exact j1
       ·exact hsub _ (i2 j (by omega) h1)
     ·rw [if_neg hA]
      refine ⟨i1, fun j hj h1 => ?_⟩
      by_cases hjk : j = k
      ·rw [hjk] at h1
       exact absurd h1 hA
      ·exact i2 j (by omega) h1
   obtain ⟨i1, i2⟩ := inv m (Nat.le_refl _)
   refine ⟨wkS_sub A B m f s c m c hc1, fun j hj h1 h2 => ?_⟩
   by_cases h3 : (s ||| 2 ^ c).testBit (A j) = true
   ·rw [tb_or_pow, h2, Bool.false_or, decide_eq_true_iff] at h3
    exact i2 j hj h3.symm
   ·exact i1 j hj h1 (by simpa using h3)
/-- What streets lead to from a corner. -/
inductive Way (A B : Nat → Nat) (m : Nat) (a : Nat) : Nat → Prop
 | here : Way A B m a a
 | step {b : Nat} {j : Nat} : Way A B m a b → j < m → A j = b → Way A B m a (B j)
theorem Way.before {A B : Nat → Nat} {m a j : Nat} (hj : j < m) (ha : A j = a) {b : Nat} (h : Way A B m (B j) b) : Way A B m a b := by
 induction h with
 | here => exact Way.step .here hj ha
 | step _ hk hA ih => exact Way.step ih hk hA
/-- A walk meets only what can be reached. -/
theorem wk_way {A B : Nat → Nat} {m : Nat} : ∀ f s c i, (wk A B m f s c).testBit i = true → s.testBit i = true ∨ Way A B m c i := by
 intro f
 induction f with
 | zero => exact fun s c i h => .inl h
 | succ f ih =>
  intro s c i h
  rw [wk_succ] at h
  split at h
  ·exact .inl h
  ·have : ∀ k, k ≤ m → (wkS A B m f s c k).testBit i = true → s.testBit i = true ∨ Way A B m c i := by
    intro k
    induction k with
    | zero =>
     intro _ h
     rw [wkS_zero, tb_or_pow, Bool.or_eq_true, decide_eq_true_iff] at h
     rcases h with h | h
     ·exact .inl h
     ·exact .inr (h ▸ .here)
    | succ k ihk =>
     intro hk h
     rw [wkS_succ] at h
     split at h
     ·next hA =>
      rcases ih _ _ _ h with h1 | h1
      ·exact ihk (by omega) h1
      ·exact .inr (Way.before (by omega) hA h1)
     ·exact ihk (by omega) h
   exact this m (Nat.le_refl _) h
/-- THE WALK from nothing meets exactly what can be reached. -/
theorem wk_iff {A B : Nat → Nat} {m n c : Nat} (hB : ∀ j, j < m → B j < n) (hc : c < n) (i : Nat) : (wk A B m n 0 c).testBit i = true ↔ Way A B m c i := by
 obtain ⟨h1, h2⟩ := wk_closed (A := A) hB n 0 c hc (unv_le_n 0 n)
 refine ⟨fun h => ?_, fun h => ?_⟩
 ·rcases wk_way n 0 c i h with h | h
  ·rw [Nat.zero_testBit] at h
   exact absurd h (by simp)
  ·exact h
 ·induction h with
  | here => exact h1
  | step _ hj hA ih => exact h2 _ hj (by rw [hA]; exact ih) (Nat.zero_testBit _)
end Go.Tri
