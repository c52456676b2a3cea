/-
 CONTRACTS: assignments: all that begin with a list, in their order.
-/
import Derived.Test.YtpolaegggclhcaaB1
namespace Go.Tri
open Go.Proofs

/-- All assignments of n that go on for d more. -/
def asg (n : Nat) : Nat → List Int → List (List Int)
 | 0, b => [b]
 | d + 1, b => (List.range n).flatMap fun (k : Nat) => if (k : Int) ∈ b then [] else asg n d (b ++ [(k : Int)])
/-- Those that go on with a number below k. -/
def asgTo (n d : Nat) (b : List Int) (k : Nat) : List (List Int) := (List.range k).flatMap fun (k : Nat) => if (k : Int) ∈ b then [] else asg n d (b ++ [(k : Int)])
theorem asgTo_succ (n d : Nat) (b : List Int) (k : Nat) : asgTo n d b (k + 1) = asgTo n d b k ++ (if (k : Int) ∈ b then [] else asg n d (b ++ [(k : Int)])) := by
 unfold asgTo
 rw [List.range_succ, List.flatMap_append]
 simp
theorem asg_bd {n : Nat} (hn : n ≤ 5) : ∀ d b, (asg n d b).length ≤ 5 ^ d := by
 intro d
 induction d with
 | zero => intro b; simp [asg]
 | succ d ih =>
  intro b
  have : ∀ k, (asgTo n d b k).length ≤ k * 5 ^ d := by
   intro k
   induction k with
   | zero => simp [asgTo]
   | succ k ihk =>
    rw [asgTo_succ, List.length_append, Nat.succ_mul]
    have h1 : (if (k : Int) ∈ b then [] else asg n d (b ++ [(k : Int)])).length ≤ 5 ^ d := by
     split
     ·simp
     ·exact ih _
    omega
  have h2 := this n
  have h3 : n * 5 ^ d ≤ 5 * 5 ^ d := Nat.mul_le_mul_right _ hn
  have h4 : 5 * 5 ^ d = 5 ^ (d + 1) := by rw [Nat.pow_succ, Nat.mul_comm]
  show (asgTo n d b n).length ≤ _
  omega
theorem asgTo_bd {n d : Nat} (hn : n ≤ 5) (hd : d ≤ 4) (b : List Int) : ∀ k, (asgTo n d b k).length ≤ k * 625 := by
 intro k
 induction k with
 | zero => simp [asgTo]
 | succ k ihk =>
  rw [asgTo_succ, List.length_append]
  have h1 : (if (k : Int) ∈ b then [] else asg n d (b ++ [(k : Int)])).length ≤ 625 := by
   split
   ·simp
   ·have := asg_bd hn d (b ++ [(k : Int)])
    have h5 : 5 ^ d ≤ 5 ^ 4 := Nat.pow_le_pow_right (by decide) hd
    omega
  omega
theorem pigeon : ∀ (n : Nat) (f : Nat → Nat), (∀ i, i ≤ n → f i < n) → ∃ a b, a < b ∧ b ≤ n ∧ f a = f b := by
 intro n
 induction n with
 | zero => intro f h; exact absurd (h 0 (by omega)) (by omega)
 | succ n ih =>
  intro f h
  by_cases hv : ∃ i, i ≤ n ∧ f i = f (n + 1)
  ·obtain ⟨i, h1, h2⟩ := hv
   exact ⟨i, n + 1, by omega, by omega, h2⟩
  ·have hne : ∀ i, i ≤ n → f i ≠ f (n + 1) := fun i hi he => hv ⟨i, hi, he⟩
   obtain ⟨a, b, h1, h2, h3⟩ := ih (fun i => if f i < f (n + 1) then f i else f i - 1) (fun i hi => by
    have := h i (by omega)
    have := h (n + 1) (by omega)
    have := hne i hi
    split <;> omega)
   refine ⟨a, b, h1, by omega, ?_⟩
   have := hne a (by omega)
   have := hne b h2
   split at h3 <;> split at h3 <;> omega
/-- Something is left. -/
theorem left_over {n : Nat} {b : List Int} (h : b.length < n) : ∃ k : Nat, k < n ∧ ¬ (k : Int) ∈ b := by
 apply Classical.byContradiction
 intro hno
 have hall : ∀ k : Nat, k < n → ∃ j, j < b.length ∧ b.getD j 0 = (k : Int) := fun k hk => memI_at (Classical.byContradiction fun hm => hno ⟨k, hk, hm⟩)
 have hex : ∀ i, i ≤ b.length → (if h : ∃ j, j < b.length ∧ b.getD j 0 = (i : Int) then h.choose else b.length) < b.length := fun i hi => by
  have h1 := hall i (by omega)
  rw [dif_pos h1]
  exact h1.choose_spec.1
 obtain ⟨x, y, hxy, hy, he⟩ := pigeon b.length (fun i => if h : ∃ j, j < b.length ∧ b.getD j 0 = (i : Int) then h.choose else b.length) hex
 have hx := hall x (by omega)
 have hy := hall y (by omega)
 have he : (if h : ∃ j, j < b.length ∧ b.getD j 0 = (x : Int) then h.choose else b.length) = (if h : ∃ j, j < b.length ∧ b.getD j 0 = (y : Int) then h.choose else b.length) := he
 rw [dif_pos hx, dif_pos hy] at he
 have e1 := hx.choose_spec.2
 have e2 := hy.choose_spec.2
 rw [he, e2] at e1
 omega
theorem asg_ne {n : Nat} : ∀ d b, b.length + d = n → asg n d b ≠ [] := by
 intro d
 induction d with
 | zero => intro b _; simp [asg]
 | succ d ih =>
  intro b hb
  obtain ⟨k, hk, hkb⟩ := left_over (n := n) (b := b) (by omega)
  have h1 := ih (b ++ [(k : Int)]) (by simp; omega)
  intro h0
  obtain ⟨x, hx⟩ := List.exists_mem_of_ne_nil _ h1
  have : x ∈ asg n (d + 1) b := by
   simp only [asg, List.mem_flatMap]
   exact ⟨k, List.mem_range.2 hk, by rw [if_neg hkb]; exact hx⟩
  rw [h0] at this
  simp at this
/-- Rows of ints, as cells and as a value. -/
def rowF (L : List (List Int)) : Nat → Nat → V := fun j _ => .ints true (L.getD j [])
@[reducible] def rowsV (L : List (List Int)) : V := .seq true 1 L.length (rowF L)
theorem flat_rows (L : List (List Int)) : Flat noN (rowsV L) := ⟨rfl, fun _ _ _ _ => rfl⟩
@[reducible] def kOb (ts : List Int) : Ob := ⟨3, 1, 0, .kil ts⟩
theorem ACM_xs {P : Program} {f : FuncId} {xs ys : List V} {M : Mem} {Q : V → Mem → Prop} {nb0 : Option Nat} (h : xs = ys) (hy : ACM P f ys M Q nb0) : ACM P f xs M Q nb0 := h ▸ hy
def wrA : List FuncId := [87]
end Go.Tri
