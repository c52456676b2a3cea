/-
 WHAT CAN BE REACHED, as the specification finds it: whole passes over the streets until nothing is new.
-/
import Derived.Test.YtafibngpgllcfaaM2
namespace Go.Tri
open Go.Proofs

/-- What can be reached; b: directions play no part. -/
inductive Rch (A B : Nat → Nat) (m : Nat) (b : Bool) (c : Nat) : Nat → Prop
 | here : Rch A B m b c c
 | fwd {u j : Nat} : Rch A B m b c u → j < m → A j = u → Rch A B m b c (B j)
 | bwd {u j : Nat} : Rch A B m b c u → j < m → B j = u → b = true → Rch A B m b c (A j)
/-- Does a street bring something new? -/
def newB (A B : Nat → Nat) (b : Bool) (s j : Nat) : Bool := (s.testBit (A j) && !s.testBit (B j)) || (b && (!s.testBit (A j) && s.testBit (B j)))
def addS (A B : Nat → Nat) (s j : Nat) : Nat := s ||| 2 ^ A j ||| 2 ^ B j
theorem addS_tb (A B : Nat → Nat) (s j i : Nat) : (addS A B s j).testBit i = (s.testBit i || decide (A j = i) || decide (B j = i)) := by
 unfold addS
 rw [tb_or_pow, tb_or_pow]
theorem addS_sub (A B : Nat → Nat) (s j : Nat) : SubB s (addS A B s j) := fun i hi => by rw [addS_tb, hi]; rfl
theorem addS_lt {A B : Nat → Nat} {s j n : Nat} (hs : s < 2 ^ n) (hA : A j < n) (hB : B j < n) : addS A B s j < 2 ^ n :=
 Nat.or_lt_two_pow (Nat.or_lt_two_pow hs (Nat.pow_lt_pow_right (by decide) hA)) (Nat.pow_lt_pow_right (by decide) hB)
theorem addS_unv {A B : Nat → Nat} {b : Bool} {s j n : Nat} (h : newB A B b s j = true) (hA : A j < n) (hB : B j < n) : unv (addS A B s j) n < unv s n := by
 unfold newB at h
 rw [Bool.or_eq_true] at h
 rcases h with h | h
 ·simp only [Bool.and_eq_true, Bool.not_eq_true'] at h
  exact unv_lt (addS_sub A B s j) h.2 (by rw [addS_tb]; simp) n hB
 ·simp only [Bool.and_eq_true, Bool.not_eq_true'] at h
  exact unv_lt (addS_sub A B s j) h.2.1 (by rw [addS_tb]; simp) n hA
theorem addS_rch {A B : Nat → Nat} {m : Nat} {b : Bool} {c s j : Nat} (hj : j < m) (h : newB A B b s j = true) (hs : ∀ i, s.testBit i = true → Rch A B m b c i) : ∀ i, (addS A B s j).testBit i = true → Rch A B m b c i := by
 intro i hi
 rw [addS_tb, Bool.or_eq_true, Bool.or_eq_true, decide_eq_true_iff, decide_eq_true_iff] at hi
 unfold newB at h
 rw [Bool.or_eq_true] at h
 simp only [Bool.and_eq_true, Bool.not_eq_true'] at h
 rcases hi with (hi | hi) | hi
 ·exact hs i hi
 ·rcases h with h | h
  ·rw [← hi]
   exact hs _ h.1
  ·rw [← hi]
   exact .bwd (hs _ h.2.2) hj rfl h.1
 ·rcases h with h | h
  ·rw [← hi]
   exact .fwd (hs _ h.1) hj rfl
  ·rw [← hi]
   exact hs _ h.2.2
/-- A set that nothing is new to is all that can be reached. -/
theorem closed_all {A B : Nat → Nat} {m : Nat} {b : Bool} {c s : Nat} (hc : s.testBit c = true) (h : ∀ j, j < m → newB A B b s j = false) : ∀ i, Rch A B m b c i → s.testBit i = true := by
 intro i hi
 induction hi with
 | here => exact hc
 | fwd hu hj hA ih =>
  have := h _ hj
  unfold newB at this
  rw [hA, ih, Bool.or_eq_false_iff] at this
  simpa using this.1
 | bwd hu hj hB hb ih =>
  have := h _ hj
  unfold newB at this
  rw [hB, ih, hb, Bool.or_eq_false_iff] at this
  simpa using this.2
theorem rch_way {A B : Nat → Nat} {m c i : Nat} : Rch A B m false c i ↔ Way A B m c i := by
 refine ⟨fun h => ?_, fun h => ?_⟩
 ·induction h with
  | here => exact .here
  | fwd _ hj hA ih => exact .step ih hj hA
  | bwd _ _ _ hb => exact absurd hb (by simp)
 ·induction h with
  | here => exact .here
  | step _ hj hA ih => exact .fwd ih hj hA
def apN (m1 : Nat) (A1 A2 : Nat → Nat) : Nat → Nat := fun j => if j < m1 then A1 j else A2 (j - m1)
theorem apN_lo {m j : Nat} {A B : Nat → Nat} (h : j < m) : apN m A B j = A j := if_pos h
theorem apN_hi {m j : Nat} {A B : Nat → Nat} : apN m A B (m + j) = B j := by
 unfold apN
 rw [if_neg (by omega), Nat.add_sub_cancel_left]
theorem rch_way2 {A B : Nat → Nat} {m c i : Nat} : Rch A B m true c i ↔ Way (apN m A B) (apN m B A) (m + m) c i := by
 refine ⟨fun h => ?_, fun h => ?_⟩
 ·induction h with
  | here => exact .here
  | @fwd u j _ hj hA ih =>
   have := Way.step (A := apN m A B) (B := apN m B A) (m := m + m) (j := j) ih (by omega) (by rw [apN_lo hj]; exact hA)
   rwa [apN_lo hj] at this
  | @bwd u j _ hj hB _ ih =>
   have := Way.step (A := apN m A B) (B := apN m B A) (m := m + m) (j := m + j) ih (by omega) (by rw [apN_hi]; exact hB)
   rwa [apN_hi] at this
 ·induction h with
  | here => exact .here
  | @step b j _ hj hA ih =>
   by_cases h : j < m
   ·rw [apN_lo h] at hA ⊢
    exact .fwd ih h hA
   ·obtain ⟨q, rfl⟩ : ∃ q, j = m + q := ⟨j - m, by omega⟩
    rw [apN_hi] at hA ⊢
    exact .bwd ih (by omega) hA rfl
/-- All that can be reached from a corner, as a set. -/
def rcN (n m : Nat) (A B : Nat → Nat) (b : Bool) (c : Nat) : Nat := if b = true then wk (apN m A B) (apN m B A) (m + m) n 0 c else wk A B m n 0 c
theorem apN_lt {m n : Nat} {A1 A2 : Nat → Nat} (h1 : ∀ j, j < m → A1 j < n) (h2 : ∀ j, j < m → A2 j < n) : ∀ j, j < m + m → apN m A1 A2 j < n := fun j hj => by
 unfold apN
 split
 ·exact h1 j (by omega)
 ·exact h2 _ (by omega)
theorem rcN_iff {n m : Nat} {A B : Nat → Nat} {b : Bool} {c : Nat} (hA : ∀ j, j < m → A j < n) (hB : ∀ j, j < m → B j < n) (hc : c < n) (i : Nat) : (rcN n m A B b c).testBit i = true ↔ Rch A B m b c i := by
 unfold rcN
 cases b with
 | true => rw [if_pos rfl, wk_iff (apN_lt hB hA) hc, rch_way2]
 | false => rw [if_neg (by simp), wk_iff hB hc, rch_way]
theorem rcN_eq {n m : Nat} {A B : Nat → Nat} {b : Bool} {c s : Nat} (hA : ∀ j, j < m → A j < n) (hB : ∀ j, j < m → B j < n) (hc : c < n) (h0 : s.testBit c = true) (h1 : ∀ i, s.testBit i = true → Rch A B m b c i) (h2 : ∀ j, j < m → newB A B b s j = false) : s = rcN n m A B b c := by
 refine Nat.eq_of_testBit_eq fun i => ?_
 rw [Bool.eq_iff_iff, rcN_iff hA hB hc]
 exact ⟨h1 i, closed_all h0 h2 i⟩
theorem rcN_lt {n m : Nat} {A B : Nat → Nat} {b : Bool} {c : Nat} (hA : ∀ j, j < m → A j < n) (hB : ∀ j, j < m → B j < n) (hc : c < n) : rcN n m A B b c < 2 ^ n := by
 unfold rcN
 split
 ·exact wk_lt (apN_lt hB hA) n 0 c (Nat.two_pow_pos n) hc
 ·exact wk_lt hB n 0 c (Nat.two_pow_pos n) hc
end Go.Tri
