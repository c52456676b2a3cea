/-
  LEVELS: what the sorted matching costs, height by height.
-/
import Derived.Test.YtknpoobfecceeaaB4
namespace Go.Tri
open Go.Proofs

/-! Sums over lists, and over the numbers below n -/
def sL (f : Int → Int) : List Int → Int
  | [] => 0
  | x :: r => f x + sL f r
theorem sL_app (f : Int → Int) (a b : List Int) : sL f (a ++ b) = sL f a + sL f b := by
  induction a with
  | nil => simp [sL]
  | cons x r ih => simp only [List.cons_append, sL, ih]; omega
theorem sL_put (f : Int → Int) {q : List Int} {x : Int} {j : Nat} : sL f (putL q x [] j) = sL f q + f x := by
  unfold putL
  have h : sL f q = sL f (q.take j) + sL f (q.drop j) := by rw [← sL_app, List.take_append_drop]
  simp only [sL_app, sL, h]
  omega
theorem sL_sort (f : Int → Int) (lt : Int → Int → Bool) (xs : List Int) : ∀ k, k ≤ xs.length → sL f (sortP lt xs k) = sL f (xs.take k) := by
  intro k
  induction k with
  | zero => intro _; simp [sortP, sL]
  | succ k ih =>
    intro hk
    simp only [sortP, insP]
    rw [sL_put, ih (by omega), take_succ_getD _ _ (by omega), sL_app]
    simp [sL]
/-- The sum of f j over j below k. -/
def sN (f : Nat → Int) : Nat → Int
  | 0 => 0
  | k + 1 => sN f k + f k
theorem sN_congr {f g : Nat → Int} : ∀ k, (∀ j, j < k → f j = g j) → sN f k = sN g k := by
  intro k
  induction k with
  | zero => intro _; rfl
  | succ k ih => intro h; simp only [sN]; rw [ih (fun j hj => h j (by omega)), h k (by omega)]
theorem sN_add (f g : Nat → Int) : ∀ k, sN (fun j => f j + g j) k = sN f k + sN g k := by
  intro k
  induction k with
  | zero => rfl
  | succ k ih => simp only [sN, ih]; omega
theorem sN_mul (c : Int) (f : Nat → Int) : ∀ k, sN (fun j => c * f j) k = c * sN f k := by
  intro k
  induction k with
  | zero => simp [sN]
  | succ k ih => simp only [sN, ih, Int.mul_add]
theorem sN_swap (f : Nat → Nat → Int) (m : Nat) : ∀ k, sN (fun j => sN (f j) m) k = sN (fun h => sN (fun j => f j h) k) m := by
  intro k
  induction k with
  | zero =>
    have : ∀ m, sN (fun _ => (0 : Int)) m = 0 := by intro m; induction m with | zero => rfl | succ m ih => simp only [sN, ih]; rfl
    simp only [sN]
    exact (this m).symm
  | succ k ih => simp only [sN, ih]; rw [← sN_add]
theorem sL_sN (f : Int → Int) (l : List Int) : sL f l = sN (fun j => f (l.getD j 0)) l.length := by
  have : ∀ l : List Int, ∀ k, k ≤ l.length → sL f (l.take k) = sN (fun j => f (l.getD j 0)) k := by
    intro l k
    induction k with
    | zero => intro _; simp [sL, sN]
    | succ k ih => intro hk; rw [take_succ_getD _ _ (by omega), sL_app, ih (by omega)]; simp [sL, sN]
  have h := this l l.length (Nat.le_refl _)
  rwa [List.take_length] at h
/-- What is summed over the rides in an order is summed over the rides. -/
theorem ord_sum (f : Int → Int) (κ : Nat → Int) (n : Nat) : sN (fun j => f ((ordL κ n).getD j 0)) n = sN (fun j => f j) n := by
  have h1 := sL_sN f (ordL κ n)
  rw [ordL_len] at h1
  have h2 : sL f (ordL κ n) = sL f (idxL n) := by
    have := sL_sort f (ltK κ) (idxL n) n (by rw [idxL_len]; exact Nat.le_refl _)
    rwa [List.take_of_length_le (by rw [idxL_len]; exact Nat.le_refl _)] at this
  have h3 := sL_sN f (idxL n)
  rw [idxL_len] at h3
  rw [← h1, h2, h3]
  exact sN_congr n (fun j hj => by rw [idxL_get hj])
theorem sN_ge {f : Nat → Int} (h0 : ∀ j, 0 ≤ f j) {k i : Nat} (hi : i < k) : f i ≤ sN f k := by
  have pos : ∀ k, 0 ≤ sN f k := by intro k; induction k with | zero => exact Int.le_refl _ | succ k ih => have := h0 k; simp only [sN]; omega
  induction k with
  | zero => omega
  | succ k ih =>
    simp only [sN]
    rcases (by omega : i = k ∨ i < k) with rfl | h
    · have := pos i; omega
    · have := ih h; have := h0 k; omega
theorem sN_ge2 {f : Nat → Int} (h0 : ∀ j, 0 ≤ f j) {k i j : Nat} (hij : i < j) (hj : j < k) : f i + f j ≤ sN f k := by
  induction k with
  | zero => omega
  | succ k ih =>
    simp only [sN]
    rcases (by omega : j = k ∨ j < k) with rfl | h
    · have := sN_ge h0 hij; omega
    · have := ih h; have := h0 k; omega
theorem sN_one (y : Nat) : ∀ k, sN (fun j => if (j : Int) = (y : Int) then 1 else 0) k = if y < k then 1 else 0 := by
  intro k
  induction k with
  | zero => rfl
  | succ k ih => simp only [sN, ih]; split <;> split <;> split <;> omega
/-- No ride is there twice. -/
theorem ord_inj {κ : Nat → Int} {n i j : Nat} (hij : i < j) (hj : j < n) : (ordL κ n).getD i 0 ≠ (ordL κ n).getD j 0 := by
  intro he
  have hm := ordL_mem (κ := κ) (n := n) (getD_mem' (l := ordL κ n) (k := j) (by rw [ordL_len]; exact hj))
  obtain ⟨y, hy, hyj⟩ : ∃ y : Nat, y < n ∧ (ordL κ n).getD j 0 = y := ⟨((ordL κ n).getD j 0).toNat, by omega, by omega⟩
  have h1 := ord_sum (fun x => if x = (y : Int) then 1 else 0) κ n
  rw [sN_one y n, if_pos hy] at h1
  have h2 := sN_ge2 (f := fun j => if (ordL κ n).getD j 0 = (y : Int) then 1 else 0) (fun j => by show 0 ≤ (if (ordL κ n).getD j 0 = (y : Int) then (1 : Int) else 0); split <;> omega) hij hj
  simp only [he, hyj, if_true] at h2
  omega
theorem folP_get {n : Nat} {E S : List Int} (hE : ∀ i j, i < j → j < n → E.getD i 0 ≠ E.getD j 0) (hEm : ∀ j, j < n → 0 ≤ E.getD j 0 ∧ E.getD j 0 < n) : ∀ k, k ≤ n → ∀ j, j < k → (folP n E S k).getD (E.getD j 0).toNat 0 = S.getD j 0 := by
  intro k
  induction k with
  | zero => intro _ j hj; omega
  | succ k ih =>
    intro hk j hj
    simp only [folP]
    rw [getD_setL, folP_len]
    have h1 := hEm j (by omega)
    have h2 := hEm k (by omega)
    rcases (by omega : j = k ∨ j < k) with rfl | h3
    · rw [if_pos ⟨rfl, by omega⟩]
    · have := hE j k h3 (by omega)
      rw [if_neg (by omega), ih (by omega) j h3]

/-! In order -/
theorem stopJ_spec {lt : Int → Int → Bool} {q : List Int} {x : Int} : ∀ j, (0 < stopJ lt q x j → lt x (q.getD (stopJ lt q x j - 1) 0) = false) ∧ ∀ i, stopJ lt q x j ≤ i → i < j → lt x (q.getD i 0) = true := by
  intro j
  induction j with
  | zero => exact ⟨fun h => absurd h (by simp [stopJ]), fun i _ h => by omega⟩
  | succ j ih =>
    simp only [stopJ]
    by_cases h : lt x (q.getD j 0) = true
    · rw [if_pos h]
      refine ⟨ih.1, fun i h1 h2 => ?_⟩
      rcases (by omega : i = j ∨ i < j) with rfl | h3
      · exact h
      · exact ih.2 i h1 h3
    · rw [if_neg h]
      exact ⟨fun _ => by simpa using h, fun i h1 h2 => by omega⟩
def Asc (κ : Nat → Int) (l : List Int) : Prop := ∀ i j, i < j → j < l.length → κ (l.getD i 0).toNat ≤ κ (l.getD j 0).toNat
theorem sortP_asc (κ : Nat → Int) (xs : List Int) : ∀ k, Asc κ (sortP (ltK κ) xs k) := by
  intro k
  induction k with
  | zero => intro i j _ hj; simp [sortP] at hj
  | succ k ih =>
    have hl := sortP_len (ltK κ) xs k
    simp only [sortP, insP]
    generalize sortP (ltK κ) xs k = q at *
    generalize xs.getD k 0 = x
    have hs := stopJ_le (ltK κ) q x q.length
    obtain ⟨s1, s2⟩ := stopJ_spec (lt := ltK κ) (q := q) (x := x) q.length
    generalize stopJ (ltK κ) q x q.length = p at *
    have lo : ∀ i, i < p → κ (q.getD i 0).toNat ≤ κ x.toNat := fun i hi => by
      have h1 := s1 (by omega)
      unfold ltK at h1
      rw [decide_eq_false_iff_not] at h1
      rcases (by omega : i = p - 1 ∨ i < p - 1) with rfl | h2
      · omega
      · have := ih i (p - 1) h2 (by omega); omega
    have hi' : ∀ i, p ≤ i → i < q.length → κ x.toNat ≤ κ (q.getD i 0).toNat := fun i h1 h2 => by
      have := s2 i h1 h2
      unfold ltK at this
      rw [decide_eq_true_iff] at this
      omega
    intro i j hij hj
    rw [putL_len hs] at hj
    simp only [List.length_nil] at hj
    rw [putL_get hs, putL_get hs]
    by_cases a1 : i < p
    · rw [if_pos a1]
      by_cases b1 : j < p
      · rw [if_pos b1]; exact ih i j hij (by omega)
      · rw [if_neg b1]
        by_cases b2 : j = p
        · rw [if_pos b2]; exact lo i a1
        · rw [if_neg b2, if_pos (by omega)]; exact ih i (j - 1) (by omega) (by omega)
    · rw [if_neg a1]
      by_cases a2 : i = p
      · rw [if_pos a2, if_neg (by omega), if_neg (by omega), if_pos (by omega)]
        exact hi' (j - 1) (by omega) (by omega)
      · rw [if_neg a2, if_pos (by omega), if_neg (by omega), if_neg (by omega), if_pos (by omega)]
        exact ih (i - 1) (j - 1) (by omega) (by omega)
theorem ordL_asc (κ : Nat → Int) (n : Nat) : Asc κ (ordL κ n) := sortP_asc κ (idxL n) n

/-! Levels -/
/-- Is h above x, and at most y? -/
def cH (x y : Int) (h : Nat) : Int := if x < (h : Int) + 1 ∧ (h : Int) + 1 ≤ y then 1 else 0
theorem cH_sum {x y : Int} (hx : 0 ≤ x) : ∀ m : Nat, sN (cH x y) m = if x < m ∧ x < y then (if y < m then y else m) - x else 0 := by
  intro m
  induction m with
  | zero => rw [if_neg (by omega)]; rfl
  | succ m ih =>
    simp only [sN, ih, cH]
    by_cases h1 : x < (m : Int) + 1 ∧ (m : Int) + 1 ≤ y
    · rw [if_pos h1]
      by_cases h2 : x < (m : Int) ∧ x < y
      · rw [if_pos h2, if_pos (show x < ((m + 1 : Nat) : Int) ∧ x < y by omega), if_neg (show ¬ y < (m : Int) by omega), if_neg (show ¬ y < ((m + 1 : Nat) : Int) by omega)]; omega
      · rw [if_neg h2, if_pos (show x < ((m + 1 : Nat) : Int) ∧ x < y by omega), if_neg (show ¬ y < ((m + 1 : Nat) : Int) by omega)]; omega
    · rw [if_neg h1]
      by_cases h2 : x < (m : Int) ∧ x < y
      · rw [if_pos h2, if_pos (show x < ((m + 1 : Nat) : Int) ∧ x < y by omega)]
        split <;> split <;> omega
      · rw [if_neg h2, if_neg (by omega)]; rfl
theorem emp_levels {n : Nat} {F T : Nat → Int} {u w : Int} (hr : okRides n F T) {i k : Nat} (hi : i < n) (hk : k < n) : emp F T u w i k = sN (fun h => u * cH (T i) (F k) h + w * cH (F k) (T i) h) 1000 := by
  obtain ⟨_, t0, t1⟩ := hr i hi
  obtain ⟨⟨f0, f1⟩, _⟩ := hr k hk
  rw [sN_add, sN_mul, sN_mul, cH_sum t0, cH_sum f0]
  unfold emp
  by_cases h : F k - T i > 0
  · rw [if_pos h, if_pos (by omega), if_neg (show ¬ (F k < (1000 : Nat) ∧ F k < T i) by omega), Int.mul_zero, Int.add_zero]
    congr 1
    split <;> omega
  · rw [if_neg h, if_neg (show ¬ (T i < (1000 : Nat) ∧ T i < F k) by omega), Int.mul_zero, Int.zero_add]
    congr 1
    split <;> (try split) <;> omega

/-- How many of the first k of a are below h. -/
def loN (a : Nat → Int) (h : Int) (k : Nat) : Int := sN (fun j => if a j < h then 1 else 0) k
theorem gaps_only {a b : Nat → Int} {n : Nat} (ha : ∀ i j, i < j → j < n → a i ≤ a j) (hb : ∀ i j, i < j → j < n → b i ≤ b j) (u w : Int) (h : Nat) :
    sN (fun j => u * cH (a j) (b j) h + w * cH (b j) (a j) h) n = u * maxI 0 (loN a (h + 1) n - loN b (h + 1) n) + w * maxI 0 (loN b (h + 1) n - loN a (h + 1) n) := by
  rw [sN_add, sN_mul, sN_mul]
  have key : ∀ k, k ≤ n → sN (fun j => cH (a j) (b j) h) k - sN (fun j => cH (b j) (a j) h) k = loN a (h + 1) k - loN b (h + 1) k ∧ 0 ≤ sN (fun j => cH (a j) (b j) h) k ∧ 0 ≤ sN (fun j => cH (b j) (a j) h) k ∧
      (0 < sN (fun j => cH (a j) (b j) h) k → ∃ j, j < k ∧ a j < (h : Int) + 1 ∧ (h : Int) + 1 ≤ b j) ∧ (0 < sN (fun j => cH (b j) (a j) h) k → ∃ j, j < k ∧ b j < (h : Int) + 1 ∧ (h : Int) + 1 ≤ a j) := by
    intro k
    induction k with
    | zero => intro _; exact ⟨rfl, Int.le_refl _, Int.le_refl _, fun h => absurd h (by simp [sN]), fun h => absurd h (by simp [sN])⟩
    | succ k ih =>
      intro hk
      obtain ⟨e1, e2, e3, e4, e5⟩ := ih (by omega)
      simp only [loN, sN] at e1 ⊢
      by_cases c1 : a k < (h : Int) + 1
      · by_cases c2 : b k < (h : Int) + 1
        · rw [show cH (a k) (b k) h = 0 from if_neg (by omega), show cH (b k) (a k) h = 0 from if_neg (by omega), if_pos c1, if_pos c2]
          refine ⟨by omega, by omega, by omega, fun hp => ?_, fun hp => ?_⟩
          · obtain ⟨j, hj, h1⟩ := e4 (by omega); exact ⟨j, by omega, h1⟩
          · obtain ⟨j, hj, h1⟩ := e5 (by omega); exact ⟨j, by omega, h1⟩
        · rw [show cH (a k) (b k) h = 1 from if_pos (by omega), show cH (b k) (a k) h = 0 from if_neg (by omega), if_pos c1, if_neg c2]
          refine ⟨by omega, by omega, by omega, fun _ => ⟨k, by omega, c1, by omega⟩, fun hp => ?_⟩
          obtain ⟨j, hj, h1⟩ := e5 (by omega); exact ⟨j, by omega, h1⟩
      · by_cases c2 : b k < (h : Int) + 1
        · rw [show cH (a k) (b k) h = 0 from if_neg (by omega), show cH (b k) (a k) h = 1 from if_pos (by omega), if_neg c1, if_pos c2]
          refine ⟨by omega, by omega, by omega, fun hp => ?_, fun _ => ⟨k, by omega, c2, by omega⟩⟩
          obtain ⟨j, hj, h1⟩ := e4 (by omega); exact ⟨j, by omega, h1⟩
        · rw [show cH (a k) (b k) h = 0 from if_neg (by omega), show cH (b k) (a k) h = 0 from if_neg (by omega), if_neg c1, if_neg c2]
          refine ⟨by omega, by omega, by omega, fun hp => ?_, fun hp => ?_⟩
          · obtain ⟨j, hj, h1⟩ := e4 (by omega); exact ⟨j, by omega, h1⟩
          · obtain ⟨j, hj, h1⟩ := e5 (by omega); exact ⟨j, by omega, h1⟩
  obtain ⟨e1, e2, e3, e4, e5⟩ := key n (Nat.le_refl n)
  have hz : sN (fun j => cH (a j) (b j) h) n = 0 ∨ sN (fun j => cH (b j) (a j) h) n = 0 := by
    by_cases p1 : 0 < sN (fun j => cH (a j) (b j) h) n
    · by_cases p2 : 0 < sN (fun j => cH (b j) (a j) h) n
      · exfalso
        obtain ⟨i, i1, i2, i3⟩ := e4 p1
        obtain ⟨j, j1, j2, j3⟩ := e5 p2
        rcases (by omega : i < j ∨ i = j ∨ j < i) with h1 | rfl | h1
        · have := hb i j h1 j1; omega
        · omega
        · have := ha j i h1 i1; omega
      · right; omega
    · left; omega
  rw [← e1]
  generalize sN (fun j => cH (a j) (b j) h) n = x at *
  generalize sN (fun j => cH (b j) (a j) h) n = y at *
  have e6 : loN b (h + 1) n - loN a (h + 1) n = y - x := by omega
  rw [e6]
  unfold maxI
  rcases hz with rfl | rfl
  · by_cases hy : y = 0
    · subst hy; simp
    · rw [if_neg (by omega), if_pos (by omega), Int.sub_zero]
  · by_cases hx : x = 0
    · subst hx; simp
    · rw [if_pos (by omega), if_neg (by omega), Int.sub_zero]
theorem lo_levels (F T : Nat → Int) (h : Int) : ∀ k, downP F T h k - upP F T h k = loN T h k - loN F h k := by
  intro k
  induction k with
  | zero => rfl
  | succ k ih =>
    simp only [downP, upP, loN, sN] at ih ⊢
    split <;> split <;> split <;> split <;> omega

/-- What the law sums at the height h + 1. -/
def gH (n : Nat) (F T : Nat → Int) (u w : Int) (h : Nat) : Int := u * maxI 0 (downP F T (h + 1) n - upP F T (h + 1) n) + w * maxI 0 (upP F T (h + 1) n - downP F T (h + 1) n)
theorem matC_ord {n : Nat} {F T : Nat → Int} {u w : Int} : matC n F T u w = sN (fun j => emp F T u w ((ordL T n).getD j 0).toNat ((ordL F n).getD j 0).toNat) n := by
  have h1 : ∀ m k, worP F T u w m k = sN (fun j => emp F T u w j (m.getD j 0).toNat) k := by
    intro m k
    induction k with
    | zero => rfl
    | succ k ih => simp only [worP, sN, ih]
  unfold matC
  have h2 := ord_sum (fun x => emp F T u w x.toNat ((matL n F T).getD x.toNat 0).toNat) T n
  rw [h1, show sN (fun j => emp F T u w j ((matL n F T).getD j 0).toNat) n = sN (fun j => emp F T u w ((j : Int)).toNat ((matL n F T).getD ((j : Int)).toNat 0).toNat) n from rfl, ← h2]
  · refine sN_congr n (fun j hj => ?_)
    rw [show (matL n F T).getD ((ordL T n).getD j 0).toNat 0 = (ordL F n).getD j 0 from folP_get (fun i j hij hj => ord_inj hij hj) (fun j hj => ordL_mem (getD_mem' (by rw [ordL_len]; exact hj))) n (Nat.le_refl _) j hj]
theorem matC_levels {n : Nat} {F T : Nat → Int} {u w : Int} (hr : okRides n F T) : matC n F T u w = sN (gH n F T u w) 1000 := by
  rw [matC_ord]
  have hE : ∀ j, j < n → ((ordL T n).getD j 0).toNat < n := fun j hj => by have := ordL_mem (κ := T) (n := n) (getD_mem' (l := ordL T n) (k := j) (by rw [ordL_len]; exact hj)); omega
  have hS : ∀ j, j < n → ((ordL F n).getD j 0).toNat < n := fun j hj => by have := ordL_mem (κ := F) (n := n) (getD_mem' (l := ordL F n) (k := j) (by rw [ordL_len]; exact hj)); omega
  rw [sN_congr n (fun j hj => emp_levels hr (hE j hj) (hS j hj)), sN_swap (fun j h => u * cH (T ((ordL T n).getD j 0).toNat) (F ((ordL F n).getD j 0).toNat) h + w * cH (F ((ordL F n).getD j 0).toNat) (T ((ordL T n).getD j 0).toNat) h)]
  refine sN_congr 1000 (fun h _ => ?_)
  have := gaps_only (a := fun j => T ((ordL T n).getD j 0).toNat) (b := fun j => F ((ordL F n).getD j 0).toNat) (n := n) (fun i j hij hj => ordL_asc T n i j hij (by rw [ordL_len]; exact hj)) (fun i j hij hj => ordL_asc F n i j hij (by rw [ordL_len]; exact hj)) u w h
  rw [this]
  have h1 : loN (fun j => T ((ordL T n).getD j 0).toNat) (h + 1) n = loN T (h + 1) n := ord_sum (fun x => if T x.toNat < (h : Int) + 1 then 1 else 0) T n
  have h2 : loN (fun j => F ((ordL F n).getD j 0).toNat) (h + 1) n = loN F (h + 1) n := ord_sum (fun x => if F x.toNat < (h : Int) + 1 then 1 else 0) F n
  have h3 := lo_levels F T (h + 1) n
  rw [h1, h2]
  unfold gH
  rw [show upP F T (↑h + 1) n - downP F T (↑h + 1) n = loN F (↑h + 1) n - loN T (↑h + 1) n from by omega, h3]
end Go.Tri
