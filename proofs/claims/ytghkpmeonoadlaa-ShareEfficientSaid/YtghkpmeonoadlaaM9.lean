/-
  EFFICIENT PARTS: no parts give both as much and one more.
-/
import Derived.Test.YtghkpmeonoadlaaM8
namespace Go.Tri
open Go.Proofs

/-- Of the numbers below n that have a property, one with the greatest ratio f / g. -/
theorem max_ratio {f g : Nat → Int} {p : Nat → Prop} : ∀ n, (∀ j, j < n → p j → 0 < f j ∧ 0 < g j) → (∃ j, j < n ∧ p j) → ∃ m, m < n ∧ p m ∧ ∀ j, j < n → p j → f j * g m ≤ f m * g j
  | 0, _, ⟨j, h, _⟩ => absurd h (by omega)
  | n + 1, h, hex => by
    by_cases h1 : ∃ j, j < n ∧ p j
    · obtain ⟨m, hm, pm, hmax⟩ := max_ratio n (fun j hj => h j (by omega)) h1
      by_cases h2 : p n
      · obtain ⟨fn, gn⟩ := h n (by omega) h2
        obtain ⟨fm, gm⟩ := h m (by omega) pm
        by_cases h3 : f n * g m ≤ f m * g n
        · refine ⟨m, by omega, pm, fun j hj pj => ?_⟩
          rcases (by omega : j < n ∨ j = n) with h4 | rfl
          · exact hmax j h4 pj
          · exact h3
        · refine ⟨n, by omega, h2, fun j hj pj => ?_⟩
          rcases (by omega : j < n ∨ j = n) with h4 | rfl
          · obtain ⟨fj, gj⟩ := h j (by omega) pj
            have h5 := hmax j h4 pj
            refine Int.le_of_mul_le_mul_right (?_ : f j * g n * g m ≤ f n * g j * g m) gm
            have a1 : f j * g m * g n ≤ f m * g j * g n := Int.mul_le_mul_of_nonneg_right h5 (by omega)
            have a2 : f m * g n * g j ≤ f n * g m * g j := Int.mul_le_mul_of_nonneg_right (by omega) (by omega)
            have e1 : f j * g n * g m = f j * g m * g n := by grind
            have e2 : f m * g j * g n = f m * g n * g j := by grind
            have e3 : f n * g m * g j = f n * g j * g m := by grind
            omega
          · exact Int.le_refl _
      · refine ⟨m, by omega, pm, fun j hj pj => ?_⟩
        rcases (by omega : j < n ∨ j = n) with h4 | rfl
        · exact hmax j h4 pj
        · exact absurd pj h2
    · obtain ⟨j, hj, pj⟩ := hex
      rcases (by omega : j < n ∨ j = n) with h4 | rfl
      · exact absurd ⟨j, h4, pj⟩ h1
      · refine ⟨j, by omega, pj, fun i hi pi => ?_⟩
        rcases (by omega : i < j ∨ i = j) with h5 | rfl
        · exact absurd ⟨i, h5, pi⟩ h1
        · exact Int.le_refl _
/-- Weights for which efficient parts are best. -/
theorem eff_weights {n : Nat} {f g : Nat → Int} {l : List Int} {d : Int} (hf : ∀ j, j < n → 0 ≤ f j) (hg : ∀ j, j < n → 0 ≤ g j) (hE : Eff f g n l d) :
    ∃ u v : Int, 0 < u ∧ 0 < v ∧ ∀ j, j < n → (l.getD j 0 > 0 → v * g j ≤ u * f j) ∧ (l.getD j 0 < d → u * f j ≤ v * g j) := by
  have hI : ∀ j, j < n → (l.getD j 0 > 0 → 0 < g j → 0 < f j) ∧ (l.getD j 0 < d → 0 < f j → 0 < g j) := fun j hj => by
    obtain ⟨⟨h1, h2⟩, _⟩ := hE j hj
    have := hf j hj
    have := hg j hj
    refine ⟨fun h3 h4 => ?_, fun h3 h4 => ?_⟩
    · exact Classical.byContradiction fun h5 => h1 ⟨h3, h4, by omega⟩
    · exact Classical.byContradiction fun h5 => h2 ⟨h3, h4, by omega⟩
  by_cases hQ : ∃ k, k < n ∧ (l.getD k 0 < d ∧ 0 < f k)
  · obtain ⟨m, hm, ⟨m1, m2⟩, hmax⟩ := max_ratio (f := f) (g := g) (p := fun k => l.getD k 0 < d ∧ 0 < f k) n (fun j hj h => ⟨h.2, (hI j hj).2 h.1 h.2⟩) hQ
    refine ⟨g m, f m, (hI m hm).2 m1 m2, m2, fun j hj => ⟨fun h => ?_, fun h => ?_⟩⟩
    · have h1 : ¬ (l.getD j 0 > 0 ∧ l.getD m 0 < d ∧ f m * g j > f j * g m) := (hE j hj).2 m hm
      rw [Int.mul_comm (g m)]
      exact Classical.byContradiction fun h2 => h1 ⟨h, m1, by omega⟩
    · rcases (by have := hf j hj; omega : f j = 0 ∨ 0 < f j) with h1 | h1
      · rw [h1, Int.mul_zero]
        exact Int.mul_nonneg (by omega) (hg j hj)
      · have := hmax j hj ⟨h, h1⟩
        rw [Int.mul_comm (g m)]
        exact this
  · have hQ0 : ∀ k, k < n → l.getD k 0 < d → f k = 0 := fun k hk h => by
      have := hf k hk
      exact Classical.byContradiction fun h2 => hQ ⟨k, hk, h, by omega⟩
    by_cases hP : ∃ k, k < n ∧ (l.getD k 0 > 0 ∧ 0 < g k)
    · obtain ⟨m, hm, ⟨m1, m2⟩, hmax⟩ := max_ratio (f := g) (g := f) (p := fun k => l.getD k 0 > 0 ∧ 0 < g k) n (fun j hj h => ⟨h.2, (hI j hj).1 h.1 h.2⟩) hP
      refine ⟨g m, f m, m2, (hI m hm).1 m1 m2, fun j hj => ⟨fun h => ?_, fun h => ?_⟩⟩
      · rcases (by have := hg j hj; omega : g j = 0 ∨ 0 < g j) with h1 | h1
        · rw [h1, Int.mul_zero]
          exact Int.mul_nonneg (by omega) (hf j hj)
        · have := hmax j hj ⟨h, h1⟩
          rw [Int.mul_comm (f m)]
          exact this
      · rw [hQ0 j hj h, Int.mul_zero]
        exact Int.mul_nonneg (hf m hm) (hg j hj)
    · refine ⟨1, 1, by omega, by omega, fun j hj => ⟨fun h => ?_, fun h => ?_⟩⟩
      · have := hg j hj
        have := hf j hj
        have h1 : g j = 0 := Classical.byContradiction fun h2 => hP ⟨j, hj, h, by omega⟩
        omega
      · have := hg j hj
        rw [hQ0 j hj h]
        omega
/-- No parts are as good for both and better for one. -/
theorem eff_best {n : Nat} {f g : Nat → Int} {x y : List Int} {d D : Int} (hf : ∀ j, j < n → 0 ≤ f j) (hg : ∀ j, j < n → 0 ≤ g j) (hd : 1 ≤ d) (_hD : 1 ≤ D)
    (hx : ∀ j, j < n → 0 ≤ x.getD j 0 ∧ x.getD j 0 ≤ d) (hy : ∀ j, j < n → 0 ≤ y.getD j 0 ∧ y.getD j 0 ≤ D) (hE : Eff f g n x d)
    (h1 : mulA f x n * D ≤ mulA f y n * d) (h2 : mulB g x d n * D ≤ mulB g y D n * d) : mulA f y n * d ≤ mulA f x n * D ∧ mulB g y D n * d ≤ mulB g x d n * D := by
  obtain ⟨u, v, hu, hv, h⟩ := eff_weights hf hg hE
  have key := dual_sum (f := f) (g := g) (gt := u) (ft := v) (D := D) (den := d) (x := y) (W := x) n (fun j hj => by
    obtain ⟨k1, k2⟩ := h j hj
    have hxj := hx j hj
    have hyj := hy j hj
    have m1 : 0 ≤ y.getD j 0 * d := Int.mul_nonneg hyj.1 (by omega)
    have m2 : y.getD j 0 * d ≤ D * d := Int.mul_le_mul_of_nonneg_right hyj.2 (by omega)
    rcases (by omega : u * f j - v * g j = 0 ∨ 0 < u * f j - v * g j ∨ u * f j - v * g j < 0) with h3 | h3 | h3
    · rw [h3]; simp
    · have h4 : x.getD j 0 = d := by
        rcases (by omega : x.getD j 0 = d ∨ x.getD j 0 < d) with h5 | h5
        · exact h5
        · have := k2 h5; omega
      rw [h4, Int.mul_assoc, Int.mul_assoc, Int.mul_comm d D]
      exact Int.mul_le_mul_of_nonneg_left m2 (by omega)
    · have h4 : x.getD j 0 = 0 := by
        rcases (by omega : x.getD j 0 = 0 ∨ 0 < x.getD j 0) with h5 | h5
        · exact h5
        · have := k1 h5; omega
      rw [h4, Int.mul_assoc, Int.mul_zero, Int.zero_mul]
      have := Int.mul_nonneg (show 0 ≤ -(u * f j - v * g j) by omega) m1
      rw [Int.neg_mul] at this
      omega)
  generalize mulA f y n = a at *
  generalize mulB g y D n = b at *
  generalize mulA f x n = a' at *
  generalize mulB g x d n = b' at *
  have e1 : (u * a + v * b) * d = u * (a * d) + v * (b * d) := by grind
  have e2 : (u * a' + v * b') * D = u * (a' * D) + v * (b' * D) := by grind
  rw [e1, e2] at key
  have p1 := Int.mul_le_mul_of_nonneg_left h1 (show 0 ≤ u by omega)
  have p2 := Int.mul_le_mul_of_nonneg_left h2 (show 0 ≤ v by omega)
  exact ⟨Int.le_of_mul_le_mul_left (by omega : u * (a * d) ≤ u * (a' * D)) hu, Int.le_of_mul_le_mul_left (by omega : v * (b * d) ≤ v * (b' * D)) hv⟩
/-- Ratios in lowest terms compare as they did before. -/
theorem rat_cmp {p d p' d' : Int} (hd : 1 ≤ d) (hd' : 1 ≤ d') : p.tdiv (gR p d) * d'.tdiv (gR p' d') ≤ p'.tdiv (gR p' d') * d.tdiv (gR p d) ↔ p * d' ≤ p' * d := by
  have hg := gR_pos (a := p) hd
  have hg' := gR_pos (a := p') hd'
  have t1 : p.tdiv (gR p d) * gR p d = p := Int.tdiv_mul_cancel (by unfold gR; exact Int.ofNat_dvd_left.2 (Nat.gcd_dvd_left _ _))
  have t2 : d.tdiv (gR p d) * gR p d = d := Int.tdiv_mul_cancel (by unfold gR; exact Int.ofNat_dvd_left.2 (Nat.gcd_dvd_right _ _))
  have t3 : p'.tdiv (gR p' d') * gR p' d' = p' := Int.tdiv_mul_cancel (by unfold gR; exact Int.ofNat_dvd_left.2 (Nat.gcd_dvd_left _ _))
  have t4 : d'.tdiv (gR p' d') * gR p' d' = d' := Int.tdiv_mul_cancel (by unfold gR; exact Int.ofNat_dvd_left.2 (Nat.gcd_dvd_right _ _))
  have hm := Int.mul_pos (show 0 < gR p d by omega) (show 0 < gR p' d' by omega)
  generalize gR p d = g at *
  generalize gR p' d' = g' at *
  have e1 : p.tdiv g * d'.tdiv g' * (g * g') = (p.tdiv g * g) * (d'.tdiv g' * g') := by grind
  have e2 : p'.tdiv g' * d.tdiv g * (g * g') = (p'.tdiv g' * g') * (d.tdiv g * g) := by grind
  rw [t1, t4] at e1
  rw [t3, t2] at e2
  rw [← e1, ← e2]
  exact ⟨fun h => Int.mul_le_mul_of_nonneg_right h (by omega), fun h => Int.le_of_mul_le_mul_right h hm⟩
/-- Whatever the parts, one of both has no more than the winner. -/
theorem w_least {a b y : List Int} {D : Int} (ha : Pts a) (hb : Pts b) (hl : a.length = b.length) (_hD : 1 ≤ D) (hy : ∀ j, j < a.length → 0 ≤ y.getD j 0 ∧ y.getD j 0 ≤ D) : mulA (fA a) y a.length * wD a b ≤ mulA (fA a) (wN a b) a.length * D ∨ mulB (fA b) y D a.length * wD a b ≤ mulA (fA a) (wN a b) a.length * D := by
  obtain ⟨u, v, hu, hv, huv, h⟩ := best ha hb hl hy
  obtain ⟨q, q1, q2, q3, _⟩ := w_fac ha hb hl
  have hd := (wNum_bd ha hb hl).1
  rw [← q2] at huv
  rw [← q3] at h
  generalize mulA (fA a) y a.length = x at *
  generalize mulB (fA b) y D a.length = z at *
  generalize mulA (fA a) (wN a b) a.length = s at *
  generalize wD a b = w at *
  refine Classical.byContradiction fun hn => ?_
  have h1 : s * D + 1 ≤ x * w := by omega
  have h2 : s * D + 1 ≤ z * w := by omega
  have p1 := Int.mul_le_mul_of_nonneg_left h1 hu
  have p2 := Int.mul_le_mul_of_nonneg_left h2 hv
  have hw : 0 < w := by
    rcases (by omega : w ≤ 0 ∨ 0 < w) with h5 | h5
    · have := Int.mul_nonpos_of_nonpos_of_nonneg h5 (show 0 ≤ q by omega)
      omega
    · exact h5
  have p3 := Int.mul_le_mul_of_nonneg_right h (show 0 ≤ w by omega)
  have e1 : (u * x + v * z) * w = u * (x * w) + v * (z * w) := by grind
  have e2 : s * q * D * w = (u + v) * (s * D) := by rw [huv]; grind
  have e3 : u * (s * D + 1) + v * (s * D + 1) = (u + v) * (s * D) + (u + v) := by grind
  have e4 : 1 ≤ u + v := by omega
  omega
end Go.Tri
