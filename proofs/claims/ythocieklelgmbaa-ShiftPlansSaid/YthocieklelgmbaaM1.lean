/-
  SUMS, hours around the clock.
-/
import Derived.Test.YthocieklelgmbaaB7
namespace Go.Tri
open Go.Proofs

def sm : Nat → (Nat → Int) → Int
  | 0, _ => 0
  | k + 1, f => sm k f + f k
theorem sm_congr {f g : Nat → Int} : ∀ {k : Nat}, (∀ i, i < k → f i = g i) → sm k f = sm k g
  | 0, _ => rfl
  | k + 1, h => by simp only [sm]; rw [sm_congr (k := k) fun i hi => h i (by omega), h k (by omega)]
theorem sm_le {f g : Nat → Int} : ∀ {k : Nat}, (∀ i, i < k → f i ≤ g i) → sm k f ≤ sm k g
  | 0, _ => Int.le_refl _
  | k + 1, h => by simp only [sm]; have := sm_le (k := k) fun i hi => h i (by omega); have := h k (by omega); omega
theorem sm_zero {f : Nat → Int} {k : Nat} (h : ∀ i, i < k → f i = 0) : sm k f = 0 := by
  rw [sm_congr (g := fun _ => 0) h]
  induction k with
  | zero => rfl
  | succ k ih => simp only [sm]; rw [ih (fun i hi => h i (by omega))]; rfl
theorem sm_nn {f : Nat → Int} {k : Nat} (h : ∀ i, i < k → 0 ≤ f i) : 0 ≤ sm k f := by
  have := sm_le (f := fun _ => 0) (g := f) h
  rwa [sm_zero (f := fun _ => 0) fun _ _ => rfl] at this
theorem sm_add (f g : Nat → Int) : ∀ k, sm k (fun i => f i + g i) = sm k f + sm k g
  | 0 => rfl
  | k + 1 => by simp only [sm]; rw [sm_add f g k]; omega
theorem sm_sub (f g : Nat → Int) : ∀ k, sm k (fun i => f i - g i) = sm k f - sm k g
  | 0 => rfl
  | k + 1 => by simp only [sm]; rw [sm_sub f g k]; omega
theorem sm_mul (c : Int) (f : Nat → Int) : ∀ k, sm k (fun i => c * f i) = c * sm k f
  | 0 => by simp [sm]
  | k + 1 => by simp only [sm]; rw [sm_mul c f k, Int.mul_add]
theorem sm_const (c : Int) : ∀ k : Nat, sm k (fun _ => c) = c * k
  | 0 => by simp [sm]
  | k + 1 => by simp only [sm]; rw [sm_const c k, Int.natCast_add, Int.mul_add]; simp
theorem sm_swap (f : Nat → Nat → Int) (m : Nat) : ∀ k, sm k (fun i => sm m (fun j => f i j)) = sm m (fun j => sm k (fun i => f i j))
  | 0 => by simp only [sm]; exact (sm_zero fun _ _ => rfl).symm
  | k + 1 => by simp only [sm]; rw [sm_swap f m k, ← sm_add]
theorem sm_one {k a : Nat} (f : Nat → Int) (ha : a < k) (h : ∀ i, i < k → i ≠ a → f i = 0) : sm k f = f a := by
  induction k with
  | zero => omega
  | succ k ih =>
    simp only [sm]
    by_cases hk : a = k
    · subst hk
      rw [sm_zero fun i hi => h i (by omega) (by omega)]
      omega
    · rw [ih (by omega) (fun i hi hne => h i (by omega) hne), h k (by omega) (by omega)]
      omega
theorem sm_head (f : Nat → Int) : ∀ k, sm (k + 1) f = f 0 + sm k (fun i => f (i + 1))
  | 0 => by simp [sm]
  | k + 1 => by rw [sm, sm_head f k]; simp only [sm]; omega
theorem sm_cut (f : Nat → Int) {k : Nat} : ∀ {m : Nat}, k ≤ m → sm m (fun i => if i < k then f i else 0) = sm k f := by
  intro m
  induction m with
  | zero => intro h; rw [show k = 0 by omega]; rfl
  | succ m ih =>
    intro h
    simp only [sm]
    rcases (by omega : k = m + 1 ∨ k ≤ m) with rfl | h1
    · rw [if_pos (by omega), sm_congr (g := f) fun i hi => if_pos (by omega)]
      rfl
    · rw [ih h1, if_neg (by omega)]; omega
theorem sm_rev (f : Nat → Int) : ∀ k, sm k (fun i => f (k - 1 - i)) = sm k f
  | 0 => rfl
  | k + 1 => by
    rw [sm_head]
    simp only [sm]
    rw [← sm_rev f k, sm_congr (k := k) (g := fun i => f (k - 1 - i)) fun i hi => by congr 1; omega]
    simp
    omega
theorem sm_mono {f : Nat → Int} (h : ∀ i, 0 ≤ f i) {a b : Nat} (hab : a ≤ b) : sm a f ≤ sm b f := by
  induction b with
  | zero => rw [show a = 0 by omega]; exact Int.le_refl _
  | succ b ih =>
    rcases (by omega : a = b + 1 ∨ a ≤ b) with rfl | h1
    · exact Int.le_refl _
    · have := ih h1; have := h b; simp only [sm]; omega
theorem sm_term {f : Nat → Int} {k a : Nat} (h : ∀ i, i < k → 0 ≤ f i) (ha : a < k) : f a ≤ sm k f := by
  induction k with
  | zero => omega
  | succ k ih =>
    simp only [sm]
    by_cases hk : a = k
    · subst hk; have := sm_nn (f := f) (k := a) fun i hi => h i (by omega); omega
    · have := ih (fun i hi => h i (by omega)) (by omega); have := h k (by omega); omega

/-! Hours. -/
theorem arH_uniq {n q : Nat} {h : Int} (hq : q < n) (c : Int) (hc : h = q + n * c) : arH n h = q := by
  unfold arH
  rw [hc, Int.add_mul_emod_self_left, Int.emod_eq_of_lt (by omega) (by omega)]
  omega
theorem arH_eq {n : Nat} (hn : 1 ≤ n) (h : Int) : ∃ c : Int, h = arH n h + n * c := by
  refine ⟨h / n, ?_⟩
  rw [arH_val hn]
  have := Int.emod_add_mul_ediv h n
  omega
theorem arH_shift {n : Nat} (hn : 1 ≤ n) (a b : Int) : arH n (a + arH n b) = arH n (a + b) := by
  obtain ⟨c, hc⟩ := arH_eq hn b
  obtain ⟨d, hd⟩ := arH_eq hn (a + b)
  refine arH_uniq (arH_lt hn _) (d - c) ?_
  rw [Int.mul_sub]
  omega
theorem arH_shift' {n : Nat} (hn : 1 ≤ n) (a b : Int) : arH n (a - arH n b) = arH n (a - b) := by
  obtain ⟨c, hc⟩ := arH_eq hn b
  obtain ⟨d, hd⟩ := arH_eq hn (a - b)
  refine arH_uniq (arH_lt hn _) (d + c) ?_
  rw [Int.mul_add]
  omega
theorem arH_per {n : Nat} (hn : 1 ≤ n) (a : Int) : arH n (a + n) = arH n a := by
  obtain ⟨c, hc⟩ := arH_eq hn a
  refine arH_uniq (arH_lt hn _) (c + 1) ?_
  rw [Int.mul_add]
  omega
theorem sm_rot1 (f : Nat → Int) {n : Nat} (hn : 1 ≤ n) : sm n (fun y => f (arH n ((y : Int) + 1))) = sm n f := by
  obtain ⟨m, rfl⟩ : ∃ m, n = m + 1 := ⟨n - 1, by omega⟩
  rw [sm_head f]
  simp only [sm]
  rw [sm_congr (k := m) (g := fun i => f (i + 1)) fun i hi => by
    rw [arH_uniq (q := i + 1) (by omega) 0 (by omega)]]
  rw [arH_uniq (n := m + 1) (q := 0) (by omega) 1 (by omega)]
  omega
theorem sm_rot (f : Nat → Int) {n : Nat} (hn : 1 ≤ n) : ∀ a : Nat, sm n (fun y => f (arH n ((y : Int) + a))) = sm n f
  | 0 => sm_congr fun i hi => by rw [arH_uniq (q := i) hi 0 (by omega)]
  | a + 1 => by
    rw [← sm_rot f hn a, ← sm_rot1 (fun y => f (arH n ((y : Int) + a))) hn]
    refine sm_congr fun i hi => ?_
    congr 1
    rw [show ((arH n ((i : Int) + 1) : Nat) : Int) + (a : Int) = a + arH n ((i : Int) + 1) by omega, arH_shift hn]
    congr 1
    omega
theorem sm_rotI (f : Nat → Int) {n : Nat} (hn : 1 ≤ n) (a : Int) : sm n (fun y => f (arH n ((y : Int) + a))) = sm n f := by
  rw [← sm_rot f hn (arH n a)]
  refine sm_congr fun i hi => ?_
  rw [arH_shift hn]
theorem sm_ref (f : Nat → Int) {n : Nat} (hn : 1 ≤ n) (a : Int) : sm n (fun y => f (arH n (a - y))) = sm n f := by
  rw [← sm_rotI f hn (a + 1), ← sm_rev (fun y => f (arH n ((y : Int) + (a + 1))))]
  refine sm_congr fun i hi => ?_
  congr 1
  have e : ((n - 1 - i : Nat) : Int) + (a + 1) = (a - i) + n := by omega
  rw [e, arH_per hn]

/-- Who is there at an hour. -/
def cov (n long : Nat) (p : Nat → Int) (y : Int) : Int := sm n (fun x => if arH n (y - x) < long then p x else 0)
theorem cov_eq {n long : Nat} (hn : 1 ≤ n) (hl : long ≤ n) (p : Nat → Int) (y : Int) : cov n long p y = sm long (fun k => p (arH n (y - k))) := by
  unfold cov
  rw [← sm_ref (fun x => if arH n (y - x) < long then p x else 0) hn y]
  rw [← sm_cut (fun k => p (arH n (y - k))) hl]
  refine sm_congr fun k hk => ?_
  have e : arH n (y - ((arH n (y - k) : Nat) : Int)) = k := by
    rw [arH_shift' hn, show y - (y - (k : Int)) = k by omega]
    exact arH_small hk
  rw [e]
theorem cov_nn {n long : Nat} {p : Nat → Int} (hp : ∀ i, i < n → 0 ≤ p i) (y : Int) : 0 ≤ cov n long p y := sm_nn fun i hi => by
  split
  · exact hp i hi
  · omega
theorem cov_le {n long : Nat} {p : Nat → Int} (hp : ∀ i, i < n → 0 ≤ p i) (y : Int) : cov n long p y ≤ sm n p := sm_le fun i hi => by
  split
  · omega
  · exact hp i hi
theorem cov_mono {n long : Nat} {p q : Nat → Int} (h : ∀ i, i < n → p i ≤ q i) (y : Int) : cov n long p y ≤ cov n long q y := sm_le fun i hi => by
  split
  · exact h i hi
  · omega
end Go.Tri
