/-
  SUMS over the first places; how often a list has something.
-/
import Derived.Test.YtjcjjakmggfmcaaB12
namespace Go.Tri
open Go.Proofs

def sm (f : Nat → Int) : Nat → Int
  | 0 => 0
  | n + 1 => sm f n + f n
theorem sm_congr {f g : Nat → Int} : ∀ n, (∀ i, i < n → f i = g i) → sm f n = sm g n := by
  intro n
  induction n with
  | zero => intro _; rfl
  | succ n ih => intro h; simp only [sm]; rw [ih (fun i hi => h i (by omega)), h n (by omega)]
theorem sm_add (f g : Nat → Int) : ∀ n, sm (fun i => f i + g i) n = sm f n + sm g n := by
  intro n
  induction n with
  | zero => rfl
  | succ n ih => simp only [sm]; rw [ih]; omega
theorem sm_sub (f g : Nat → Int) : ∀ n, sm (fun i => f i - g i) n = sm f n - sm g n := by
  intro n
  induction n with
  | zero => rfl
  | succ n ih => simp only [sm]; rw [ih]; omega
theorem sm_mul (c : Int) (f : Nat → Int) : ∀ n, sm (fun i => c * f i) n = c * sm f n := by
  intro n
  induction n with
  | zero => simp [sm]
  | succ n ih => simp only [sm]; rw [ih, Int.mul_add]
theorem sm_mulr (c : Int) (f : Nat → Int) : ∀ n, sm (fun i => f i * c) n = sm f n * c := by
  intro n
  induction n with
  | zero => simp [sm]
  | succ n ih => simp only [sm]; rw [ih, Int.add_mul]
theorem sm_le {f g : Nat → Int} : ∀ n, (∀ i, i < n → f i ≤ g i) → sm f n ≤ sm g n := by
  intro n
  induction n with
  | zero => intro _; exact Int.le_refl _
  | succ n ih => intro h; have h1 := ih (fun i hi => h i (by omega)); have h2 := h n (by omega); simp only [sm]; omega
theorem sm_const (c : Int) : ∀ n : Nat, sm (fun _ => c) n = n * c := by
  intro n
  induction n with
  | zero => simp [sm]
  | succ n ih => simp only [sm]; rw [ih, show ((n + 1 : Nat) : Int) = (n : Int) + 1 from rfl, Int.add_mul]; omega
theorem sm_zero (n : Nat) : sm (fun _ => 0) n = 0 := by rw [sm_const]; omega
theorem sm_nonneg {f : Nat → Int} (n : Nat) (h : ∀ i, i < n → 0 ≤ f i) : 0 ≤ sm f n := by have := sm_le (f := fun _ => 0) n h; rw [sm_zero] at this; exact this
/-- One term apart. -/
theorem sm_one {x : Nat} (c : Int) : ∀ n, sm (fun i => if i = x then c else 0) n = if x < n then c else 0 := by
  intro n
  induction n with
  | zero => rfl
  | succ n ih =>
    simp only [sm]
    rw [ih]
    repeat' split
    all_goals omega
theorem sm_ge_one {f : Nat → Int} {n j : Nat} (hj : j < n) (h : ∀ i, i < n → 0 ≤ f i) : f j ≤ sm f n := by
  have h1 := sm_le (f := fun i => if i = j then f j else 0) (g := f) n (fun i hi => by
    show (if i = j then f j else 0) ≤ f i
    split
    · next he => subst he; exact Int.le_refl _
    · exact h i hi)
  rw [sm_one, if_pos hj] at h1
  exact h1

theorem sm_getD (s : List Int) : sm (fun i => s.getD i 0) s.length = sumL s := by
  have : ∀ k, k ≤ s.length → sm (fun i => s.getD i 0) k = sumL (s.take k) := by
    intro k
    induction k with
    | zero => intro _; rfl
    | succ k ih =>
      intro hk
      simp only [sm]
      rw [ih (by omega), take_succ_getD _ _ (by omega), sumL_snoc]
  rw [this _ (Nat.le_refl _), List.take_length]

/-- All days are somebody's. -/
theorem sm_cnt (l : List Int) (n : Nat) : ∀ t, t ≤ l.length → (∀ u, u < t → 0 ≤ l.getD u 0 ∧ l.getD u 0 < n) → sm (cnt l t) n = t := by
  intro t
  induction t with
  | zero => intro _ _; rw [sm_congr (g := fun _ => 0) n (fun i _ => by simp [cnt]), sm_zero]; rfl
  | succ t ih =>
    intro ht h
    have hd := h t (by omega)
    rw [sm_congr (g := fun i => cnt l t i + if i = (l.getD t 0).toNat then 1 else 0) n (fun i _ => by
      rw [cnt_succ l t (by omega)]
      congr 1
      by_cases hi : i = (l.getD t 0).toNat
      · rw [if_pos hi, if_pos (by omega)]
      · rw [if_neg hi, if_neg (by omega)]), sm_add, ih (by omega) (fun u hu => h u (by omega)), sm_one, if_pos (by omega)]
    rfl

theorem sm_ow {s l : List Int} {t : Nat} (ht : t ≤ l.length) (h : ∀ u, u < t → 0 ≤ l.getD u 0 ∧ l.getD u 0 < s.length) (v : Nat) : sm (ow s l t v) s.length = (v - t) * sumL s := by
  have : ow s l t v = fun i => (v : Int) * s.getD i 0 - cnt l t i * sumL s := rfl
  rw [this, sm_sub, sm_mul, sm_mulr, sm_getD, sm_cnt l s.length t ht h, Int.sub_mul]

/-- Where one is open, one is picked. -/
theorem pick_open {opn : Nat → Bool} {bef : Nat → Nat → Bool} : ∀ k i, i < k → opn i = true → 0 ≤ pick opn bef k := by
  intro k
  induction k with
  | zero => intro i hi; omega
  | succ k ih =>
    intro i hi ho
    have hb := pick_bd opn bef k
    simp only [pick]
    split
    · omega
    · next hn =>
      by_cases hik : i = k
      · subst hik
        by_cases hneg : pick opn bef i < 0
        · exact absurd ⟨ho, .inl hneg⟩ hn
        · omega
      · exact ih i (by omega) ho
/-- What is picked is open. -/
theorem pick_is {opn : Nat → Bool} {bef : Nat → Nat → Bool} : ∀ k, 0 ≤ pick opn bef k → opn (pick opn bef k).toNat = true := by
  intro k
  induction k with
  | zero => intro h; exact absurd h (by show ¬ (0 : Int) ≤ -1; decide)
  | succ k ih =>
    simp only [pick]
    split
    · next h => intro _; rw [Int.toNat_natCast]; exact h.1
    · exact ih
theorem calledL_take (s : List Int) (P : (Nat → Nat → Int) → Int) {u : Nat} : ∀ m, u ≤ m → (calledL s P m).take u = calledL s P u := by
  intro m
  induction m with
  | zero => intro h; obtain rfl : u = 0 := by omega
            rfl
  | succ m ih =>
    intro h
    by_cases hm : u = m + 1
    · subst hm; exact take_len (by rw [calledL_len]; omega)
    · show (calledL s P m ++ _).take u = _
      rw [List.take_append_of_le_length (by rw [calledL_len]; omega), ih (by omega)]
theorem calledL_get (s : List Int) (P : (Nat → Nat → Int) → Int) {u m : Nat} (h : u < m) : (calledL s P m).getD u 0 = P (clm s (calledL s P u) u (u + 1)) := by
  have h1 := calledL_take s P (u := u + 1) m h
  have h2 := take_succ_getD (calledL s P m) u (by rw [calledL_len]; exact h)
  rw [h1, calledL_take s P m (by omega), calledL] at h2
  have := List.append_cancel_left h2
  simpa using this.symm
theorem cnt_take (l : List Int) (u i : Nat) : cnt (l.take u) u i = cnt l u i := by unfold cnt; rw [List.take_take, Nat.min_self]
theorem ow_called (s : List Int) (P : (Nat → Nat → Int) → Int) {u m : Nat} (h : u ≤ m) (v i : Nat) : ow s (calledL s P u) u v i = ow s (calledL s P m) u v i := by
  unfold ow; rw [← calledL_take s P m h, cnt_take]
end Go.Tri
