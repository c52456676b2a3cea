/-
  CONTRACTS: small, atMost; what a deviation means.
-/
import Derived.Test.YtjcjjakmggfmcaaB9
import Derived.Test.YtjcjjakmggfmcaaE1
namespace Go.Tri
open Go.Proofs

def smallB (a b : Int) : Bool := decide (0 ≤ a) && decide (1 ≤ b) && decide (a < 1073741824) && decide (b < 1073741824)

theorem small_pure (a b : Int) : APure Try.prog 38 [agg2 a b] (fun R => R = .bool (smallB a b)) := by
  refine APure_of (X := cx 21) (cx_ok 21) rfl (rs := [(.tmp 2, 4)]) Try.func38 (by decide) rfl rfl rfl (by simp [cx]) ?_ ?_
  · intro x hx
    rw [List.mem_singleton.1 hx]
    intro k
    match k with
    | 0 => trivial
    | 1 => trivial
    | k + 2 => trivial
  intro _
  conv => whnf
  refine br_dec (fun h => ?_) (fun h => ?_)
  · conv => whnf
    refine br_dec (fun h2 => ?_) (fun h2 => ?_)
    · conv => whnf
      refine br_dec (fun h3 => ?_) (fun h3 => ?_)
      · conv => whnf
        refine ⟨trivial, Qb ?_⟩
        unfold smallB
        simp [show 0 ≤ a from h, show 1 ≤ b from h2, h3]
      · conv => whnf
        refine ⟨trivial, Qb ?_⟩
        unfold smallB
        simp [h3]
    · conv => whnf
      refine ⟨trivial, Qb ?_⟩
      unfold smallB
      simp [show ¬ 1 ≤ b from h2]
  · conv => whnf
    refine ⟨trivial, Qb ?_⟩
    unfold smallB
    simp [show ¬ 0 ≤ a from h]

theorem NoFr_agg2 (a b : Int) : NoFr (agg2 a b) := fun k => match k with
  | 0 => trivial
  | 1 => trivial
  | _ + 2 => trivial

theorem mul_bd {a b B C : Int} (ha : 0 ≤ a) (ha2 : a ≤ B) (hb : 0 ≤ b) (hb2 : b ≤ C) : 0 ≤ a * b ∧ a * b ≤ B * C := ⟨Int.mul_nonneg ha hb, Int.mul_le_mul ha2 hb2 hb (by omega)⟩

theorem atMost_pure (a b c d : Int) (ha : 0 ≤ a ∧ a ≤ 2147483648) (hb : 0 ≤ b ∧ b ≤ 2147483648) (hc : 0 ≤ c ∧ c ≤ 2147483648) (hd : 0 ≤ d ∧ d ≤ 2147483648) : APure Try.prog 39 [agg2 a b, agg2 c d] (fun R => R = .bool (decide (a * d ≤ c * b))) := by
  have e1 := mul_bd ha.1 ha.2 hd.1 hd.2
  have e2 := mul_bd hc.1 hc.2 hb.1 hb.2
  refine APure_of (X := cx 16) (cx_ok 16) rfl (rs := [(.tmp 4, 4)]) Try.func39 (by decide) rfl rfl rfl (by simp [cx]) ?_ ?_
  · intro x hx
    rcases List.mem_cons.1 hx with rfl | hx
    · exact NoFr_agg2 _ _
    · rw [List.mem_singleton.1 hx]; exact NoFr_agg2 _ _
  intro _
  conv => whnf
  repeat ((first | refine ⟨by omega, ?_⟩ | refine ⟨inr (by omega), ?_⟩ | refine eqn_self ?_ | refine ⟨ms (by omega), ?_⟩ | refine ⟨ms (by simp only [Src.n]; omega), ?_⟩ | refine ⟨msk (by omega), ?_⟩ | refine ⟨ms1, ?_⟩); conv => whnf)
  exact ⟨trivial, Qb rfl⟩

theorem agg2_alike {g : Nat → V} {a b : Int} (h0 : g 0 = .int a) (h1 : g 1 = .int b) : Sub (.agg 2 g) (agg2 a b) := sub_agg fun i hi => match i, hi with
  | 0, _ => Sub.of h0
  | 1, _ => Sub.of h1

/-! ### What 'dv' means. -/
theorem dvI_lt {s l : List Int} {t : Nat} {m B : Int} : ∀ k, dvI s l t m k < B ↔ m < B ∧ ∀ i, i < k → -B < dvx s l t i ∧ dvx s l t i < B := by
  intro k
  induction k with
  | zero => exact ⟨fun h => ⟨h, fun i hi => absurd hi (by omega)⟩, fun h => h.1⟩
  | succ k ih =>
    show max3 (dvI s l t m k) (dvx s l t k) < B ↔ _
    rw [max3_lt, ih]
    constructor
    · rintro ⟨⟨h1, h2⟩, h3⟩
      refine ⟨h1, fun i hi => ?_⟩
      by_cases h : i = k
      · subst h; exact h3
      · exact h2 i (by omega)
    · rintro ⟨h1, h2⟩
      exact ⟨⟨h1, fun i hi => h2 i (by omega)⟩, h2 k (by omega)⟩

theorem dv_lt {s l : List Int} {B : Int} : ∀ t, dv s l t < B ↔ 0 < B ∧ ∀ u, 1 ≤ u → u ≤ t → ∀ i, i < s.length → -B < dvx s l u i ∧ dvx s l u i < B := by
  intro t
  induction t with
  | zero => exact ⟨fun h => ⟨h, fun u h1 h2 => absurd h1 (by omega)⟩, fun h => h.1⟩
  | succ t ih =>
    show dvI s l (t + 1) (dv s l t) s.length < B ↔ _
    rw [dvI_lt, ih]
    constructor
    · rintro ⟨⟨h1, h2⟩, h3⟩
      refine ⟨h1, fun u hu hu2 => ?_⟩
      by_cases h : u = t + 1
      · subst h; exact h3
      · exact h2 u hu (by omega)
    · rintro ⟨h1, h2⟩
      exact ⟨⟨h1, fun u hu hu2 => h2 u hu (by omega)⟩, h2 (t + 1) (by omega) (by omega)⟩

theorem dv_le {s l : List Int} {B : Int} (t : Nat) : dv s l t ≤ B ↔ 0 ≤ B ∧ ∀ u, 1 ≤ u → u ≤ t → ∀ i, i < s.length → -B ≤ dvx s l u i ∧ dvx s l u i ≤ B := by
  have h := dv_lt (s := s) (l := l) (B := B + 1) t
  constructor
  · intro h1
    obtain ⟨h2, h3⟩ := h.1 (by omega)
    exact ⟨by omega, fun u hu hu2 i hi => by have := h3 u hu hu2 i hi; omega⟩
  · rintro ⟨h2, h3⟩
    have := h.2 ⟨by omega, fun u hu hu2 i hi => by have := h3 u hu hu2 i hi; omega⟩
    omega

theorem dv_ge {s l : List Int} {t u i : Nat} (h1 : 1 ≤ u) (h2 : u ≤ t) (hi : i < s.length) : -dv s l t ≤ dvx s l u i ∧ dvx s l u i ≤ dv s l t := ((dv_le t).1 (Int.le_refl _)).2 u h1 h2 i hi

/-! ### Ratios in lowest terms. -/
theorem low_small {X T : Nat} (hT : 0 < T) (hX : X < 1073741824) (hT2 : T < 1073741824) : smallB ((X / Nat.gcd X T : Nat) : Int) ((T / Nat.gcd X T : Nat) : Int) = true := by
  have h1 := Nat.div_le_self X (Nat.gcd X T)
  have h2 := Nat.div_le_self T (Nat.gcd X T)
  have h3 : 0 < T / Nat.gcd X T := Nat.div_pos (Nat.le_of_dvd hT (Nat.gcd_dvd_right _ _)) (Nat.gcd_pos_of_pos_right _ hT)
  generalize X / Nat.gcd X T = x at *
  generalize T / Nat.gcd X T = y at *
  unfold smallB
  simp
  omega

/-- A ratio in lowest terms, against another one. -/
theorem low_le {X T : Nat} (hT : 0 < T) (p q : Int) : ((X / Nat.gcd X T : Nat) : Int) * q ≤ p * ((T / Nat.gcd X T : Nat) : Int) ↔ (X : Int) * q ≤ p * T := by
  have hg : 0 < Nat.gcd X T := Nat.gcd_pos_of_pos_right _ hT
  have e1 : X = X / Nat.gcd X T * Nat.gcd X T := (Nat.div_mul_cancel (Nat.gcd_dvd_left _ _)).symm
  have e2 : T = T / Nat.gcd X T * Nat.gcd X T := (Nat.div_mul_cancel (Nat.gcd_dvd_right _ _)).symm
  generalize hgg : Nat.gcd X T = g at *
  generalize X / g = x at *
  generalize T / g = y at *
  subst e1 e2
  have e3 : ((x * g : Nat) : Int) * q = (x * q) * g := by rw [Int.natCast_mul]; ac_rfl
  have e4 : p * ((y * g : Nat) : Int) = (p * y) * g := by rw [Int.natCast_mul]; ac_rfl
  rw [e3, e4]
  exact ⟨fun h => Int.mul_le_mul_of_nonneg_right h (by omega), fun h => Int.le_of_mul_le_mul_right h (by omega)⟩
theorem low_eq (X T : Nat) : ((X / Nat.gcd X T : Nat) : Int) * T = X * ((T / Nat.gcd X T : Nat) : Int) := by
  have e1 : X / Nat.gcd X T * Nat.gcd X T = X := Nat.div_mul_cancel (Nat.gcd_dvd_left _ _)
  have e2 : T / Nat.gcd X T * Nat.gcd X T = T := Nat.div_mul_cancel (Nat.gcd_dvd_right _ _)
  generalize Nat.gcd X T = g at *
  rw [← Int.natCast_mul, ← Int.natCast_mul]
  congr 1
  conv => lhs; rw [← e2]
  conv => rhs; rw [← e1]
  generalize X / g = x at *
  generalize T / g = y at *
  ac_rfl
theorem wf_u8 {a : Int} (h : (Lit.int .u8 a).wf = true) : 0 ≤ a ∧ a ≤ 255 := by
  simp only [Lit.wf, Bool.and_eq_true, decide_eq_true_eq] at h
  exact h
theorem wf_u16 {a : Int} (h : (Lit.int .u16 a).wf = true) : 0 ≤ a ∧ a ≤ 65535 := by
  simp only [Lit.wf, Bool.and_eq_true, decide_eq_true_eq] at h
  exact h
end Go.Tri
