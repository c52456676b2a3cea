/-
 THE MENDS WITH THE FEWEST STREETS: their list, as sets ascending; the least of them as a list.
-/
import Derived.Test.YtafibngpgllcfaaM6
import Derived.Test.YtafibngpgllcfaaM7
namespace Go.Tri
open Go.Proofs

/-- Is a set of streets a mend? -/
def mtS (n m : Nat) (A B : Nat → Nat) (s : Nat) : Bool := mtB m A B (cutL n m A B (fullN n)) s (cutL n m A B (fullN n)).length
/-- The fewest, and the sets, behind the first k sets. -/
def mdS (n m : Nat) (A B : Nat → Nat) : Nat → Nat × List Nat
 | 0 => (m, [])
 | k + 1 => if ct k 14 > (mdS n m A B k).1 ∨ mtS n m A B k = false then mdS n m A B k else if ct k 14 < (mdS n m A B k).1 then (ct k 14, [k]) else ((mdS n m A B k).1, (mdS n m A B k).2 ++ [k])
theorem ct_m {s m : Nat} (hs : s < 2 ^ m) (hm : m ≤ 14) : ct s 14 ≤ m := by
 rw [← mbL_ct]
 obtain ⟨q, hq⟩ : ∃ q, 14 = m + q := ⟨14 - m, by omega⟩
 rw [hq, mbL_more hs q]
 exact mbL_len _ m
theorem mdS_spec {n m : Nat} {A B : Nat → Nat} (hm : m ≤ 14) : ∀ k, k ≤ 2 ^ m → (mdS n m A B k).1 ≤ m ∧ (∀ s, s ∈ (mdS n m A B k).2 ↔ s < k ∧ mtS n m A B s = true ∧ ct s 14 = (mdS n m A B k).1) ∧ (∀ s, s < k → mtS n m A B s = true → (mdS n m A B k).1 ≤ ct s 14) ∧ (mdS n m A B k).2.length ≤ k := by
 intro k
 induction k with
 | zero =>
  intro _
  refine ⟨Nat.le_refl _, fun s => ?_, fun s h => absurd h (Nat.not_lt_zero _), Nat.le_refl _⟩
  simp [mdS]
 | succ k ih =>
  intro hk
  obtain ⟨h1, h2, h3, h4⟩ := ih (by omega)
  have hc := ct_m (show k < 2 ^ m by omega) hm
  rw [mdS]
  by_cases c1 : ct k 14 > (mdS n m A B k).1 ∨ mtS n m A B k = false
  ·rw [if_pos c1]
   refine ⟨h1, fun s => ?_, fun s hs ht => ?_, by omega⟩
   ·rw [h2]
    refine ⟨fun ⟨g1, g2⟩ => ⟨by omega, g2⟩, fun ⟨g1, g2, g3⟩ => ⟨?_, g2, g3⟩⟩
    by_cases hsk : s = k
    ·subst hsk
     rcases c1 with c1 | c1
     ·omega
     ·rw [c1] at g2; cases g2
    ·omega
   ·by_cases hsk : s = k
    ·subst hsk
     rcases c1 with c1 | c1
     ·omega
     ·rw [c1] at ht; cases ht
    ·exact h3 s (by omega) ht
  ·rw [if_neg c1]
   have c2 : ¬ ct k 14 > (mdS n m A B k).1 := fun h => c1 (.inl h)
   have c3 : mtS n m A B k = true := by
    cases h : mtS n m A B k with
    | true => rfl
    | false => exact absurd (.inr h) c1
   by_cases c4 : ct k 14 < (mdS n m A B k).1
   ·rw [if_pos c4]
    refine ⟨by omega, fun s => ?_, fun s hs ht => ?_, by simp⟩
    ·simp only [List.mem_singleton]
     refine ⟨?_, fun ⟨g1, g2, g3⟩ => ?_⟩
     ·rintro rfl
      exact ⟨by omega, c3, rfl⟩
     ·by_cases hsk : s = k
      ·exact hsk
      ·have := h3 s (by omega) g2
       omega
    ·by_cases hsk : s = k
     ·rw [hsk]; exact Nat.le_refl _
     ·have := h3 s (by omega) ht
      show ct k 14 ≤ ct s 14
      omega
   ·rw [if_neg c4]
    refine ⟨h1, fun s => ?_, fun s hs ht => ?_, by rw [List.length_append]; exact Nat.succ_le_succ h4⟩
    ·show s ∈ (mdS n m A B k).2 ++ [k] ↔ _
     rw [List.mem_append, h2, List.mem_singleton]
     refine ⟨?_, fun ⟨g1, g2, g3⟩ => ?_⟩
     ·rintro (⟨g1, g2, g3⟩ | rfl)
      ·exact ⟨by omega, g2, g3⟩
      ·exact ⟨by omega, c3, by show ct s 14 = (mdS n m A B s).1; omega⟩
     ·by_cases hsk : s = k
      ·exact .inr hsk
      ·exact .inl ⟨by omega, g2, g3⟩
    ·by_cases hsk : s = k
     ·rw [hsk]; show (mdS n m A B k).1 ≤ ct k 14; omega
     ·exact h3 s (by omega) ht
/-- All streets are a mend. -/
theorem all_mend {n m : Nat} {A B : Nat → Nat} (h : Qok n m A B) : mtS n m A B (2 ^ m - 1) = true := by
 refine allB_iff.2 fun j hj => ?_
 obtain ⟨s, _, hs, he⟩ := cutL_nat hj
 rw [he, Int.toNat_natCast, Bool.not_eq_true', beq_eq_false_iff_ne]
 obtain ⟨t, h1, h2, h3⟩ := cut_street h hs
 intro h0
 have := eq0_iff.1 h0 t
 rw [Nat.testBit_and, lvS_tb, Nat.testBit_two_pow_sub_one] at this
 simp [h1, h2, h3] at this
/-- The sets of the mends with the fewest streets. -/
def mdL (n m : Nat) (A B : Nat → Nat) : List Nat := (mdS n m A B (2 ^ m)).2
def mdK (n m : Nat) (A B : Nat → Nat) : Nat := (mdS n m A B (2 ^ m)).1
theorem mdL_mem {n m : Nat} {A B : Nat → Nat} (hm : m ≤ 14) {s : Nat} : s ∈ mdL n m A B ↔ s < 2 ^ m ∧ mtS n m A B s = true ∧ ct s 14 = mdK n m A B := (mdS_spec hm (2 ^ m) (Nat.le_refl _)).2.1 s
theorem mdK_min {n m : Nat} {A B : Nat → Nat} (hm : m ≤ 14) {s : Nat} (hs : s < 2 ^ m) (h : mtS n m A B s = true) : mdK n m A B ≤ ct s 14 := (mdS_spec hm (2 ^ m) (Nat.le_refl _)).2.2.1 s hs h
theorem mdL_pos {n m : Nat} {A B : Nat → Nat} (h : Qok n m A B) : 0 < (mdL n m A B).length := by
 have hp := Nat.two_pow_pos m
 have h0 := mdK_min (n := n) (A := A) (B := B) h.q.sm (show 2 ^ m - 1 < 2 ^ m by omega) (all_mend h)
 -- by induction: once a mend has been met, the list is not empty
 have : ∀ k, k ≤ 2 ^ m → (∃ s, s < k ∧ mtS n m A B s = true) → 0 < (mdS n m A B k).2.length := by
  intro k
  induction k with
  | zero => rintro _ ⟨s, h1, _⟩; omega
  | succ k ih =>
   rintro hk ⟨s, h1, h2⟩
   have hc := ct_m (show k < 2 ^ m by omega) h.q.sm
   rw [mdS]
   by_cases c1 : ct k 14 > (mdS n m A B k).1 ∨ mtS n m A B k = false
   ·rw [if_pos c1]
    by_cases hsk : s = k
    ·subst hsk
     rcases c1 with c1 | c1
     ·by_cases he : ∃ s', s' < s ∧ mtS n m A B s' = true
      ·exact ih (by omega) he
      ·-- nothing met: the fewest is still m
       have : ∀ q, q ≤ s → (mdS n m A B q).1 = m := by
        intro q
        induction q with
        | zero => exact fun _ => rfl
        | succ q ihq =>
         intro hq
         rw [mdS, if_pos (.inr (by
          cases hm2 : mtS n m A B q with
          | false => rfl
          | true => exact absurd ⟨q, by omega, hm2⟩ he))]
         exact ihq (by omega)
       rw [this s (Nat.le_refl _)] at c1
       omega
     ·rw [c1] at h2; cases h2
    ·exact ih (by omega) ⟨s, by omega, h2⟩
   ·rw [if_neg c1]
    split
    ·exact Nat.zero_lt_one
    ·show 0 < ((mdS n m A B k).2 ++ [k]).length
     simp
 exact this (2 ^ m) (Nat.le_refl _) ⟨2 ^ m - 1, by omega, all_mend h⟩
theorem mdL_len {n m : Nat} {A B : Nat → Nat} (hm : m ≤ 14) : (mdL n m A B).length ≤ 2 ^ m := (mdS_spec hm (2 ^ m) (Nat.le_refl _)).2.2.2
/-- The least of rows. -/
def lsR : List (List Int) → List Int
 | [] => []
 | [a] => a
 | a :: b :: r => if cmpL a (lsR (b :: r)) < 0 then a else lsR (b :: r)
theorem lsR_spec : ∀ (l : List (List Int)), l ≠ [] → lsR l ∈ l ∧ ∀ x ∈ l, ¬ cmpL x (lsR l) < 0
 | [], h => absurd rfl h
 | [a], _ => ⟨List.mem_singleton.2 rfl, fun x hx => by rw [List.mem_singleton.1 hx]; exact cmpL_irrefl a⟩
 | a :: b :: r, _ => by
  obtain ⟨h1, h2⟩ := lsR_spec (b :: r) (by simp)
  rw [lsR]
  split
  ·next h =>
   refine ⟨List.mem_cons_self .., fun x hx hlt => ?_⟩
   rcases List.mem_cons.1 hx with rfl | hx
   ·exact cmpL_irrefl _ hlt
   ·exact h2 x hx (cmpL_trans _ _ _ hlt h)
  ·next h =>
   refine ⟨List.mem_cons_of_mem _ h1, fun x hx => ?_⟩
   rcases List.mem_cons.1 hx with rfl | hx
   ·exact h
   ·exact h2 x hx
theorem lsR_eq {l : List (List Int)} {x : List Int} (hx : x ∈ l) (h : ∀ y ∈ l, ¬ cmpL y x < 0) : x = lsR l := by
 have hn : l ≠ [] := fun h0 => by rw [h0] at hx; cases hx
 obtain ⟨h1, h2⟩ := lsR_spec l hn
 exact cmpL_anti (h2 x hx) (h _ h1)
/-- The first mend. -/
def mdR (n m : Nat) (A B : Nat → Nat) : List Int := lsR ((mdL n m A B).map fun s => mbL s 14)
end Go.Tri
