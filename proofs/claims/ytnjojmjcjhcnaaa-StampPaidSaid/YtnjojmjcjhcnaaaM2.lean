/-
  FOR StampMore: what one value more, and one place more, do to the table of the fewest stamps and to the range.
-/
import Derived.Test.YtnjojmjcjhcnaaaM1
namespace Go.Tri
open Go.Proofs

/-- Where x goes into an ascending list. -/
def insK (x : Int) : List Int → Nat
  | [] => 0
  | y :: r => if y < x then insK x r + 1 else 0
theorem insK_le (x : Int) : ∀ v : List Int, insK x v ≤ v.length := by
  intro v
  induction v with
  | nil => exact Nat.le_refl _
  | cons y r ih => simp only [insK, List.length_cons]; split <;> omega
theorem insK_lt {x : Int} : ∀ {v : List Int} {j : Nat}, j < insK x v → v.getD j 0 < x := by
  intro v
  induction v with
  | nil => intro j h; simp only [insK] at h; omega
  | cons y r ih =>
    intro j h
    simp only [insK] at h
    split at h
    · match j with
      | 0 => simpa using by assumption
      | j + 1 => simpa using ih (j := j) (by omega)
    · omega
theorem insK_ge {x : Int} : ∀ {v : List Int}, insK x v < v.length → ¬ v.getD (insK x v) 0 < x := by
  intro v
  induction v with
  | nil => intro h; simp [insK] at h
  | cons y r ih =>
    intro h
    simp only [insK, List.length_cons] at h ⊢
    split
    · next h1 =>
      rw [if_pos h1] at h
      simpa using ih (by omega)
    · next h1 => simpa using h1
theorem insK_eq {x : Int} {v : List Int} {k : Nat} (hk : k ≤ v.length) (h1 : ∀ j, j < k → v.getD j 0 < x) (h2 : k < v.length → ¬ v.getD k 0 < x) : k = insK x v := by
  have := insK_le x v
  rcases (by omega : k < insK x v ∨ insK x v < k ∨ k = insK x v) with h | h | h
  · exact absurd (insK_lt h) (h2 (by omega))
  · exact absurd (h1 _ h) (insK_ge (by omega))
  · exact h
/-- The list with x. -/
def withL (v : List Int) (x : Int) : List Int := v.take (insK x v) ++ [x] ++ v.drop (insK x v)
theorem withL_len (v : List Int) (x : Int) : (withL v x).length = v.length + 1 := by
  have := insK_le x v
  simp only [withL, List.length_append, List.length_take, List.length_drop, List.length_cons, List.length_nil]
  omega
theorem withL_get (v : List Int) (x : Int) (j : Nat) : (withL v x).getD j 0 = if j < insK x v then v.getD j 0 else if j = insK x v then x else v.getD (j - 1) 0 := by
  have := insK_le x v
  unfold withL
  simp only [List.getD_eq_getElem?_getD]
  split
  · rw [List.getElem?_append_left (by simp; omega), List.getElem?_append_left (by simp; omega), List.getElem?_take_of_lt (by omega)]
  · split
    · next h => subst h; rw [List.getElem?_append_left (by simp; omega), List.getElem?_append_right (by simp; omega)]; simp; rw [show insK x v - min (insK x v) v.length = 0 from by omega]; rfl
    · rw [List.getElem?_append_right (by simp; omega), List.getElem?_drop]
      congr 2
      simp
      omega
theorem withL_mem {v : List Int} {x y : Int} (h : y ∈ v) : y ∈ withL v x := by
  unfold withL
  rw [← List.take_append_drop (insK x v) v] at h
  rcases List.mem_append.1 h with h | h
  · exact List.mem_append_left _ (List.mem_append_left _ h)
  · exact List.mem_append_right _ h
theorem withL_vals {v : List Int} (hv : Vals v) (h6 : v.length < 6) {x : Int} (hx : 1 ≤ x ∧ x ≤ 200) (hn : x ∉ v) : Vals (withL v x) := by
  have hk := insK_le x v
  refine ⟨by rw [withL_len]; omega, by rw [withL_len]; omega, ?_⟩
  rw [withL_len]
  intro j hj
  have hne : ∀ i, i < v.length → v.getD i 0 ≠ x := fun i hi e => hn (e ▸ getD_mem' hi)
  rw [withL_get, withL_get]
  have low : ∀ i, i < insK x v → v.getD i 0 < x := fun i hi => insK_lt hi
  have high : ∀ i, insK x v ≤ i → i < v.length → x < v.getD i 0 := by
    intro i h1 h2
    have a := insK_ge (x := x) (v := v) (by omega)
    have b := hne (insK x v) (by omega)
    rcases (by omega : insK x v = i ∨ insK x v < i) with rfl | h3
    · omega
    · have := hv.2.2.lt h3 h2; omega
  rcases (by omega : j < insK x v ∨ j = insK x v ∨ j = insK x v + 1 ∨ insK x v + 1 < j) with h | h | h | h
  · rw [if_pos h]
    have := hv.at (i := j) (by omega)
    refine ⟨this.1, this.2, fun h0 => ?_⟩
    rw [if_pos (by omega)]
    exact hv.2.2.lt (by omega) (by omega)
  · rw [if_neg (by omega), if_pos h]
    refine ⟨hx.1, hx.2, fun h0 => ?_⟩
    rw [if_pos (by omega)]
    exact low _ (by omega)
  · rw [if_neg (by omega), if_neg (by omega)]
    have := hv.at (i := j - 1) (by omega)
    refine ⟨this.1, this.2, fun h0 => ?_⟩
    rw [if_neg (by omega), if_pos (by omega)]
    exact high _ (by omega) (by omega)
  · rw [if_neg (by omega), if_neg (by omega)]
    have := hv.at (i := j - 1) (by omega)
    refine ⟨this.1, this.2, fun h0 => ?_⟩
    rw [if_neg (by omega), if_neg (by omega)]
    exact hv.2.2.lt (by omega) (by omega)
theorem last_ge {v : List Int} (hv : Vals v) {y : Int} (h : y ∈ v) : y ≤ lastV v := by
  obtain ⟨i, hi, rfl⟩ := mem_getD h
  have := hv.1
  rcases (by omega : i = v.length - 1 ∨ i < v.length - 1) with rfl | h1
  · exact Int.le_refl _
  · have := hv.2.2.lt h1 (by omega); unfold lastV; omega
theorem last_mem {v : List Int} (hv : Vals v) : lastV v ∈ v := getD_mem' (by have := hv.1; omega)

theorem rangeOf_mono {p q : Nat → Bool} : ∀ (f g n : Nat), f ≤ g → (∀ a, n < a → a ≤ n + f → p a = true → q a = true) → rangeOf p f n ≤ rangeOf q g n := by
  intro f
  induction f with
  | zero => intro g n _ _; exact (rangeOf_le q g n).1
  | succ f ih =>
    intro g n hg h
    match g with
    | 0 => omega
    | g + 1 =>
      simp only [rangeOf]
      split
      · next hp =>
        rw [if_pos (h (n + 1) (by omega) (by omega) hp)]
        exact ih g (n + 1) (by omega) (fun a h1 h2 => h a (by omega) (by omega))
      · split
        · have := (rangeOf_le q g (n + 1)).1; omega
        · exact Nat.le_refl _

/-- More values. -/
theorem few_grow {h : Nat} {v w : List Int} (hv : Vals v) (hw : Vals w) (hs : ∀ y ∈ v, y ∈ w) {a : Nat} (ha : (a : Int) ≤ h * lastV v) (h0 : 0 ≤ (fewL h v).getD a 0) : 0 ≤ (fewL h w).getD a 0 ∧ (fewL h w).getD a 0 ≤ (fewL h v).getD a 0 := by
  have hll := last_ge hw (hs _ (last_mem hv))
  have hml : (h : Int) * lastV v ≤ h * lastV w := Int.mul_le_mul_of_nonneg_left hll (by omega)
  have f1 := fewL_ok (h := h) (by omega) hv ha
  have f2 := fewL_ok (h := h) (by omega) hw (show (a : Int) ≤ h * lastV w by omega)
  rcases f1 with ⟨e, _⟩ | ⟨_, b1, c1, _⟩
  · omega
  · have c2 := Sm_mono hs c1
    rcases f2 with ⟨_, n2⟩ | ⟨a2, b2, _, n2⟩
    · exact absurd c2 (n2 _ (by omega))
    · refine ⟨a2, ?_⟩
      by_cases hc : (fewL h w).getD a 0 ≤ (fewL h v).getD a 0
      · exact hc
      · exact absurd c2 (n2 _ (by omega))
theorem reach_grow {h : Nat} {v w : List Int} (hv : Vals v) (hw : Vals w) (hs : ∀ y ∈ v, y ∈ w) : refReach h v ≤ refReach h w := by
  have hl := hv.last
  have hll := last_ge hw (hs _ (last_mem hv))
  have hml : (h : Int) * lastV v ≤ h * lastV w := Int.mul_le_mul_of_nonneg_left hll (by omega)
  have hn : 0 ≤ (h : Int) * lastV v := Int.mul_nonneg (by omega) (by omega)
  unfold refReach
  rw [fewL_len, fewL_len]
  refine rangeOf_mono _ _ _ (by omega) (fun a h1 h2 h3 => ?_)
  unfold posB at h3 ⊢
  exact decide_eq_true (few_grow hv hw hs (by omega) (of_decide_eq_true h3)).1
/-- More places. -/
theorem few_more {h : Nat} {v : List Int} (hv : Vals v) {a : Nat} (ha : (a : Int) ≤ h * lastV v) :
    (0 ≤ (fewL h v).getD a 0 → (fewL ((h : Int) + 1) v).getD a 0 = (fewL h v).getD a 0) ∧
    ((fewL h v).getD a 0 < 0 → 0 ≤ (fewL ((h : Int) + 1) v).getD a 0 → (fewL ((h : Int) + 1) v).getD a 0 = (h : Int) + 1) := by
  have hl := hv.last
  have e : ((h : Int) + 1) * lastV v = h * lastV v + lastV v := by rw [Int.add_mul, Int.one_mul]
  have f1 := fewL_ok (h := h) (by omega) hv ha
  have f2 := fewL_ok (h := (h : Int) + 1) (by omega) hv (a := a) (by omega)
  generalize (fewL h v).getD a 0 = x at *
  generalize (fewL ((h : Int) + 1) v).getD a 0 = y at *
  rcases f1 with ⟨e1, n1⟩ | ⟨a1, b1, c1, n1⟩
  · refine ⟨fun h0 => by omega, fun _ h0 => ?_⟩
    rcases f2 with ⟨e2, _⟩ | ⟨a2, b2, c2, n2⟩
    · omega
    · by_cases hc : y ≤ h
      · exact absurd c2 (n1 _ (by omega))
      · omega
  · refine ⟨fun _ => ?_, fun h0 => by omega⟩
    rcases f2 with ⟨_, n2⟩ | ⟨a2, b2, c2, n2⟩
    · exact absurd c1 (n2 _ (by omega))
    · rcases (by omega : x < y ∨ y < x ∨ y = x) with h3 | h3 | h3
      · exact absurd c1 (n2 _ (by omega))
      · exact absurd c2 (n1 _ (by omega))
      · exact h3
theorem reach_more {h : Nat} {v : List Int} (hv : Vals v) : refReach h v ≤ refReach ((h : Int) + 1) v := by
  have hl := hv.last
  have e : ((h : Int) + 1) * lastV v = h * lastV v + lastV v := by rw [Int.add_mul, Int.one_mul]
  have hn : 0 ≤ (h : Int) * lastV v := Int.mul_nonneg (by omega) (by omega)
  unfold refReach
  rw [fewL_len, fewL_len]
  refine rangeOf_mono _ _ _ (by omega) (fun a h1 h2 h3 => ?_)
  unfold posB at h3 ⊢
  have h4 := of_decide_eq_true h3
  rw [(few_more hv (by omega)).1 h4]
  exact h3
end Go.Tri
