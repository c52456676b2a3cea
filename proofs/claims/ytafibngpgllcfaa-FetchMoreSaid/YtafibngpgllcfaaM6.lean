/-
 FACTS OF CUTS: the smallest one; each has a street; a mend meets it.
-/
import Derived.Test.YtafibngpgllcfaaB20
import Derived.Test.YtafibngpgllcfaaM5
import Derived.Test.YtafibngpgllcfaaB21
namespace Go.Tri
open Go.Proofs

theorem smF_min {m : Nat} {A B : Nat → Nat} {L : List Int} (hL : ∀ j, j < L.length → L.getD j 0 ≠ 0) : ∀ k, k < L.length → ∃ i, i < k + 1 ∧ (smF m A B L (k + 1)).2 = L.getD i 0 ∧ (smF m A B L (k + 1)).1 = (szC m A B (L.getD i 0) : Nat) ∧ ∀ j, j < k + 1 → szC m A B (L.getD i 0) ≤ szC m A B (L.getD j 0) ∧ (szC m A B (L.getD j 0) = szC m A B (L.getD i 0) → i ≤ j) := by
 intro k
 induction k with
 | zero =>
  intro hk
  refine ⟨0, by omega, ?_, ?_, fun j hj => ?_⟩
  ·rw [smF, if_pos (.inl rfl)]
  ·rw [smF, if_pos (.inl rfl)]
  ·obtain rfl : j = 0 := by omega
   exact ⟨Nat.le_refl _, fun _ => Nat.le_refl _⟩
 | succ k ih =>
  intro hk
  obtain ⟨i, h1, h2, h3, h4⟩ := ih (by omega)
  rw [smF]
  by_cases h : (szC m A B (L.getD (k + 1) 0) : Int) < (smF m A B L (k + 1)).1
  ·rw [if_pos (.inr h)]
   rw [h3] at h
   refine ⟨k + 1, by omega, rfl, rfl, fun j hj => ?_⟩
   by_cases hj1 : j = k + 1
   ·rw [hj1]
    exact ⟨Nat.le_refl _, fun _ => Nat.le_refl _⟩
   ·have := (h4 j (by omega)).1
    exact ⟨by omega, fun h => by omega⟩
  ·rw [if_neg (by intro h5; rcases h5 with h5 | h5; exact hL i (by omega) (by rw [← h2]; exact h5); exact h h5)]
   rw [h3] at h
   refine ⟨i, by omega, h2, h3, fun j hj => ?_⟩
   by_cases hj1 : j = k + 1
   ·rw [hj1]
    exact ⟨by omega, fun _ => by omega⟩
   ·exact h4 j (by omega)
theorem con_full {n m : Nat} {A B : Nat → Nat} (h : Qok n m A B) {i : Nat} (hi : i < n) : Rch A B m true 0 i := by
 have h1 := h.con
 unfold conB at h1
 rw [beq_iff_eq] at h1
 have h2 : rcN n m A B true 0 = fullN n := by
  unfold rcN
  rw [if_pos rfl]
  omega
 have := (rcN_iff (b := true) h.q.hA h.q.hB (show 0 < n by have := h.q.lo; omega) i).1 (by rw [h2, fullN_tb]; exact decide_eq_true hi)
 exact this
/-- A set of some corners, not all, has a street that leads out or in. -/
theorem set_street {n m : Nat} {A B : Nat → Nat} (h : Qok n m A B) {s : Nat} (h0 : 0 < s) (h1 : s < fullN n) : ∃ j, j < m ∧ s.testBit (A j) ≠ s.testBit (B j) := by
 refine Classical.byContradiction fun hno => ?_
 have same : ∀ j, j < m → s.testBit (A j) = s.testBit (B j) := fun j hj => Classical.byContradiction fun hne => hno ⟨j, hj, hne⟩
 have all : ∀ i, Rch A B m true 0 i → s.testBit i = s.testBit 0 := by
  intro i hi
  induction hi with
  | here => rfl
  | fwd _ hj hA ih => rw [← ih, ← hA, same _ hj]
  | bwd _ hj hB _ ih => rw [← ih, ← hB, same _ hj]
 have hp := Nat.two_pow_pos n
 have hlt : s < 2 ^ n := by unfold fullN at h1; omega
 cases hb : s.testBit 0 with
 | true =>
  have : s = fullN n := Nat.eq_of_testBit_eq fun i => by
   rw [fullN_tb]
   by_cases hi : i < n
   ·rw [all i (con_full h hi), hb, decide_eq_true hi]
   ·rw [tb_big hlt (by omega), decide_eq_false hi]
  omega
 | false =>
  have : s = 0 := eq0_iff.2 fun i => by
   by_cases hi : i < n
   ·rw [all i (con_full h hi), hb]
   ·exact tb_big hlt (by omega)
  omega
/-- A cut has a street. -/
theorem cut_street {n m : Nat} {A B : Nat → Nat} (h : Qok n m A B) {s : Nat} (hs : cutB n m A B s = true) : ∃ j, j < m ∧ s.testBit (A j) = true ∧ s.testBit (B j) = false := by
 have hs := (cutB_iff h.q.hA h.q.hB).1 hs
 obtain ⟨j, hj, hne⟩ := set_street h hs.1 hs.2.1
 have := hs.2.2 j hj
 refine ⟨j, hj, ?_⟩
 cases ha : s.testBit (A j) <;> cases hb : s.testBit (B j)
 ·rw [ha, hb] at hne; exact absurd rfl hne
 ·rw [ha, hb] at this; exact absurd (this rfl) (by simp)
 ·exact ⟨rfl, rfl⟩
 ·rw [ha, hb] at hne; exact absurd rfl hne
theorem mb14_mem {s : Nat} (hs : s < 16384) {x : Int} : x ∈ mbL s 14 ↔ ∃ i : Nat, s.testBit i = true ∧ x = i := by
 rw [mbL_mem]
 refine ⟨fun ⟨i, _, h⟩ => ⟨i, h⟩, fun ⟨i, h1, h2⟩ => ⟨i, ?_, h1, h2⟩⟩
 refine Classical.byContradiction fun hi => ?_
 rw [tb_big (n := 14) hs (by omega)] at h1
 cases h1
theorem get_mem {L : List Int} {x : Int} (h : x ∈ L) : ∃ j, j < L.length ∧ L.getD j 0 = x := by
 obtain ⟨j, hj, he⟩ := List.getElem_of_mem h
 exact ⟨j, hj, by rw [List.getD_eq_getElem?_getD, List.getElem?_eq_getElem hj]; exact he⟩
/-- The streets of a set, in a list. -/
theorem cross_get {n m : Nat} {A B : Nat → Nat} (hQ : Qn n m A B) (a : Nat) : (∀ i, i < (mbL (lvS A B a m) 14).length → ∃ t : Nat, t < m ∧ a.testBit (A t) = true ∧ a.testBit (B t) = false ∧ (mbL (lvS A B a m) 14).getD i 0 = t) ∧ ∀ t : Nat, t < m → a.testBit (A t) = true → a.testBit (B t) = false → ∃ i, i < (mbL (lvS A B a m) 14).length ∧ (mbL (lvS A B a m) 14).getD i 0 = t := by
 refine ⟨fun i hi => ?_, fun t h1 h2 h3 => ?_⟩
 ·obtain ⟨t, h1, h2⟩ := (mb14_mem (lv_small hQ a)).1 (getD_mem hi)
  rw [lvS_tb] at h1
  simp only [Bool.and_eq_true, decide_eq_true_iff, Bool.not_eq_true'] at h1
  exact ⟨t, h1.1, h1.2.1, h1.2.2, h2⟩
 ·exact get_mem ((mb14_mem (lv_small hQ a)).2 ⟨t, by rw [lvS_tb]; simp [h1, h2, h3], rfl⟩)
/-- A mend has a street of every cut. -/
theorem mend_meets {n m : Nat} {A B : Nat → Nat} {l : List Int} (hl : imB n m A B l = true) {a : Nat} (ha : cutB n m A B a = true) : ∃ (t : Nat) (j : Nat), t < m ∧ a.testBit (A t) = true ∧ a.testBit (B t) = false ∧ j < l.length ∧ l.getD j 0 = t := by
 unfold imB at hl
 rw [Bool.and_eq_true] at hl
 obtain ⟨h1, h2⟩ := hl
 obtain ⟨q, hq, he⟩ := cutL_has ha
 have h3 := allB_iff.1 h2 q hq
 rw [he, Int.toNat_natCast, Bool.not_eq_true', beq_eq_false_iff_ne] at h3
 obtain ⟨i, hi⟩ : ∃ i, (stO l l.length &&& lvS A B a m).testBit i = true := by
  refine Classical.byContradiction fun hno => h3 (eq0_iff.2 fun i => ?_)
  cases hb : (stO l l.length &&& lvS A B a m).testBit i with
  | false => rfl
  | true => exact absurd ⟨i, hb⟩ hno
 rw [Nat.testBit_and, Bool.and_eq_true, stO_tb, lvS_tb] at hi
 simp only [Bool.and_eq_true, decide_eq_true_iff, Bool.not_eq_true'] at hi
 obtain ⟨⟨j, hj, hje⟩, h4, h5, h6⟩ := hi
 have := (asP_iff.1 (allB_iff.1 h1 j hj)).1
 exact ⟨i, j, h4, h5, h6, hj, by omega⟩
end Go.Tri
