/-
 SORTING BY PUTTING IN: the places, the lists.
-/
import Derived.Test.YtpolaegggclhcaaB1
namespace Go.Tri
open Go.Proofs

theorem getD_app {l r : List Int} (j : Nat) : (l ++ r).getD j 0 = if j < l.length then l.getD j 0 else r.getD (j - l.length) 0 := by
 split
 ·next h => simp [List.getD, List.getElem?_append_left h]
 ·next h => simp [List.getD, List.getElem?_append_right (show l.length ≤ j by omega)]
theorem getD_take {l : List Int} {k j : Nat} (h : j < k) : (l.take k).getD j 0 = l.getD j 0 := by simp [List.getD, List.getElem?_take_of_lt h]
theorem getD_drop (l : List Int) (k i : Nat) : (l.drop k).getD i 0 = l.getD (k + i) 0 := by simp [List.getD]
theorem getD_setL {l : List Int} {i j : Nat} {x : Int} : (l.set i x).getD j 0 = if i = j ∧ j < l.length then x else l.getD j 0 := by
 by_cases h : i = j
 ·subst h
  by_cases hl : i < l.length
  ·rw [if_pos ⟨rfl, hl⟩]; simp [List.getD, hl]
  ·rw [if_neg (fun h => hl h.2)]; simp [List.getD, List.getElem?_eq_none (show l.length ≤ i by omega), List.getElem?_eq_none (show (l.set i x).length ≤ i by rw [List.length_set]; omega)]
 ·rw [if_neg (fun hh => h hh.1)]; simp [List.getD, List.getElem?_set_ne h]
theorem mem_getD {v : List Int} {x : Int} (hx : x ∈ v) : ∃ i, i < v.length ∧ v.getD i 0 = x := by
 obtain ⟨i, hi, e⟩ := List.mem_iff_getElem.1 hx
 exact ⟨i, hi, by simp [List.getD, hi, e]⟩

/-- q with x at the place j, and r behind. -/
def putL (q : List Int) (x : Int) (r : List Int) (j : Nat) : List Int := q.take j ++ [x] ++ q.drop j ++ r
theorem putL_len {q : List Int} {x : Int} {r : List Int} {j : Nat} (hj : j ≤ q.length) : (putL q x r j).length = q.length + 1 + r.length := by
 unfold putL
 simp only [List.length_append, List.length_take, List.length_drop, List.length_cons, List.length_nil]
 omega
theorem putL_get {q : List Int} {x : Int} {r : List Int} {j : Nat} (hj : j ≤ q.length) (i : Nat) :
  (putL q x r j).getD i 0 = if i < j then q.getD i 0 else if i = j then x else if i ≤ q.length then q.getD (i - 1) 0 else r.getD (i - q.length - 1) 0 := by
 have l1 : (q.take j).length = j := by rw [List.length_take]; omega
 have l2 : (q.take j ++ [x]).length = j + 1 := by rw [List.length_append, l1]; rfl
 have l3 : (q.take j ++ [x] ++ q.drop j).length = q.length + 1 := by rw [List.length_append, l2, List.length_drop]; omega
 unfold putL
 rw [getD_app, l3]
 by_cases h1 : i < q.length + 1
 ·rw [if_pos h1, getD_app, l2]
  by_cases h2 : i < j + 1
  ·rw [if_pos h2, getD_app, l1]
   by_cases h3 : i < j
   ·rw [if_pos h3, if_pos h3, getD_take h3]
   ·rw [if_neg h3, if_neg h3, if_pos (by omega), show i - j = 0 from by omega]; rfl
  ·rw [if_neg h2, if_neg (by omega), if_neg (by omega), if_pos (by omega), getD_drop]
   congr 1
   omega
 ·rw [if_neg h1, if_neg (by omega), if_neg (by omega), if_neg (by omega)]
  congr 1
theorem putL_swap {q : List Int} {x : Int} {r : List Int} {j : Nat} (hj : j + 1 ≤ q.length) : ((putL q x r (j + 1)).set (j + 1) (q.getD j 0)).set j x = putL q x r j := by
 have hl := putL_len (x := x) (r := r) (show j + 1 ≤ q.length from hj)
 have hl' := putL_len (x := x) (r := r) (show j ≤ q.length by omega)
 refine ext_getD (by rw [List.length_set, List.length_set, hl, hl']) (fun i hi => ?_)
 rw [List.length_set, List.length_set, hl] at hi
 rw [getD_setL, getD_setL, List.length_set, hl, putL_get (by omega), putL_get (by omega)]
 by_cases h1 : j = i
 ·rw [if_pos (by omega), if_neg (by omega), if_pos (by omega)]
 ·rw [if_neg (by omega)]
  by_cases h2 : j + 1 = i
  ·rw [if_pos (by omega), if_neg (by omega), if_neg (by omega), if_pos (by omega)]
   congr 1
   omega
  ·rw [if_neg (by omega)]
   by_cases h3 : i < j
   ·rw [if_pos (by omega), if_pos (by omega)]
   ·rw [if_neg (show ¬ i < j + 1 by omega), if_neg (show ¬ i = j + 1 by omega), if_neg (show ¬ i < j by omega), if_neg (show ¬ i = j by omega)]

/-- Where x comes to rest, going down from the place j. -/
def stopJ (lt : Int → Int → Bool) (q : List Int) (x : Int) : Nat → Nat
 | 0 => 0
 | j + 1 => if lt x (q.getD j 0) = true then stopJ lt q x j else j + 1
theorem stopJ_le (lt : Int → Int → Bool) (q : List Int) (x : Int) : ∀ j, stopJ lt q x j ≤ j := by
 intro j
 induction j with
 | zero => exact Nat.le_refl _
 | succ j ih => simp only [stopJ]; split <;> omega
def insP (lt : Int → Int → Bool) (q : List Int) (x : Int) : List Int := putL q x [] (stopJ lt q x q.length)
/-- The first k of a list, sorted. -/
def sortP (lt : Int → Int → Bool) (xs : List Int) : Nat → List Int
 | 0 => []
 | k + 1 => insP lt (sortP lt xs k) (xs.getD k 0)
theorem sortP_len (lt : Int → Int → Bool) (xs : List Int) : ∀ k, (sortP lt xs k).length = k := by
 intro k
 induction k with
 | zero => rfl
 | succ k ih => simp only [sortP, insP]; rw [putL_len (stopJ_le _ _ _ _), ih]; rfl
theorem putL_nil {q : List Int} {x : Int} {r : List Int} {j : Nat} : putL q x r j = putL q x [] j ++ r := by unfold putL; simp
theorem putL_mem {q : List Int} {x y : Int} {r : List Int} {j : Nat} : y ∈ putL q x r j ↔ y ∈ q ∨ y = x ∨ y ∈ r := by
 unfold putL
 have h : y ∈ q ↔ y ∈ q.take j ∨ y ∈ q.drop j := by rw [← List.mem_append, List.take_append_drop]
 simp only [List.mem_append, List.mem_singleton, h]
 constructor
 ·rintro (((h | h) | h) | h)
  ·exact .inl (.inl h)
  ·exact .inr (.inl h)
  ·exact .inl (.inr h)
  ·exact .inr (.inr h)
 ·rintro ((h | h) | h | h)
  ·exact .inl (.inl (.inl h))
  ·exact .inl (.inr h)
  ·exact .inl (.inl (.inr h))
  ·exact .inr h
theorem sortP_mem {lt : Int → Int → Bool} {xs : List Int} {y : Int} : ∀ {k}, k ≤ xs.length → y ∈ sortP lt xs k → y ∈ xs := by
 intro k
 induction k with
 | zero => intro _ h; simp [sortP] at h
 | succ k ih =>
  intro hk h
  simp only [sortP, insP] at h
  rcases putL_mem.1 h with h | h | h
  ·exact ih (by omega) h
  ·rw [h]; exact getD_mem' (by omega)
  ·simp at h
/-- The numbers below n. -/
def idxL (n : Nat) : List Int := (List.range n).map fun (i : Nat) => (i : Int)
theorem idxL_len (n : Nat) : (idxL n).length = n := by simp [idxL]
theorem idxL_get {n j : Nat} (h : j < n) : (idxL n).getD j 0 = j := by simp [idxL, List.getD, h]
theorem idxL_succ (n : Nat) : idxL (n + 1) = idxL n ++ [(n : Int)] := by simp [idxL, List.range_succ]
theorem idxL_mem {n : Nat} {y : Int} (h : y ∈ idxL n) : 0 ≤ y ∧ y < n := by
 simp only [idxL, List.mem_map, List.mem_range] at h
 obtain ⟨i, hi, rfl⟩ := h
 omega
end Go.Tri
