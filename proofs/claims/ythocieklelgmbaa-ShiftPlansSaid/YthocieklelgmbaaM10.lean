/-
  THE SHARE IN LOWEST TERMS: the first of the best quotients; the reference's scan goes on and finds none.
-/
import Derived.Test.YthocieklelgmbaaM5
namespace Go.Tri
open Go.Proofs

/-- The least size for a multiple of the needs is the share times it, rounded up. -/
theorem sh_roundM {l : List Int} {long : Nat} (hn : Nds l) (hl1 : 1 ≤ long) (hl : long ≤ l.length) {a b : Int} (hs : ShIs l long a b) {k : Nat} (hk : 1 ≤ k) (hk12 : k ≤ 12) : ((leL (mul l k) long : Int) - 1) * b < k * a ∧ k * a ≤ leL (mul l k) long * b := by
  have h12 := hn.2.1
  constructor
  · obtain ⟨d, e1, e2, e3, e4⟩ := hs.q
    by_cases h0 : leL (mul l k) long = 0
    · rw [h0]
      have : (0 : Int) ≤ k * a := Int.mul_nonneg (by omega) (by omega)
      omega
    · have hok : okT (mul l k) long ((leL (mul l k) long : Int) - 1) = false := by
        cases hx : okT (mul l k) long ((leL (mul l k) long : Int) - 1) with
        | false => rfl
        | true =>
          have := (leM_iff hn hl1 hl hk12).1 ((mulOk hn hl1 hl hk12 (by omega)).1 hx)
          omega
      obtain ⟨S, C, g1, g2⟩ := cert_of hn hl1 hl hk hok
      have hf := (leM_iff (T := a) hn hl1 hl (b := d) (by omega)).2 (by omega)
      obtain ⟨p, hp⟩ := fea_big.1 hf
      have h3 := g1.2.2.2 d a p (by omega) hp
      have hC := g1.1
      generalize (leL (mul l k) long : Int) - 1 = T at *
      have i1 : (d : Int) * (T * C) ≤ d * (k * S - 1) := Int.mul_le_mul_of_nonneg_left (by omega) (by omega)
      have i2 : (d : Int) * (T * C) = C * (T * b) := by rw [e4]; grind
      have i3 : (k : Int) * (d * S) ≤ k * (C * a) := Int.mul_le_mul_of_nonneg_left h3 (by omega)
      have i4 : (d : Int) * (k * S - 1) = k * (d * S) - d := by grind
      have i5 : (k : Int) * (C * a) = C * (k * a) := by grind
      rcases (by omega : T * b < k * a ∨ k * a ≤ T * b) with h | h
      · exact h
      · have := Int.mul_le_mul_of_nonneg_left h (show 0 ≤ C by omega)
        omega
  · obtain ⟨p, hp⟩ := fea_big.1 ((leM_iff (T := (leL (mul l k) long : Int)) hn hl1 hl hk12).2 (Int.le_refl _))
    exact sh_below hn hl1 hl hs (by omega) hp
/-- Of equal quotients it is the first. -/
theorem shR_first {l : List Int} {long : Nat} : ∀ k, 2 ≤ k → ∀ d : Nat, 1 ≤ d → (d : Int) < (shR l long k).2 → (shR l long k).1 * d < leL (mul l d) long * (shR l long k).2 := by
  intro k
  induction k with
  | zero => intro h; omega
  | succ k ih =>
    intro hk d hd hlt
    by_cases h1 : k = 1
    · subst h1
      have : (d : Int) < 1 := hlt
      omega
    · rw [shR_succ l long (by omega)] at hlt ⊢
      by_cases hc : (leL (mul l (k : Int)) long : Int) * (shR l long k).2 < (shR l long k).1 * (k : Int)
      · rw [if_pos hc] at hlt ⊢
        obtain ⟨⟨e, e1, e2, e3, e4⟩, hle⟩ := shR_is (l := l) (long := long) k (by omega)
        have h5 := hle d hd (by dsimp only at hlt; omega)
        generalize (shR l long k).1 = a at *
        generalize (shR l long k).2 = b at *
        show (leL (mul l (k : Int)) long : Int) * d < leL (mul l d) long * k
        generalize (leL (mul l (k : Int)) long : Int) = x at *
        generalize (leL (mul l (d : Int)) long : Int) = y at *
        have i1 : x * b * d < a * k * d := Int.mul_lt_mul_of_pos_right hc (by omega)
        have i2 : (k : Int) * (a * d) ≤ k * (y * b) := Int.mul_le_mul_of_nonneg_left h5 (by omega)
        have i3 : x * b * d = b * (x * d) := by grind
        have i4 : (k : Int) * (y * b) = b * (y * k) := by grind
        have i5 : (k : Int) * (a * d) = a * k * d := by grind
        rcases (by omega : x * d < y * k ∨ y * k ≤ x * d) with h | h
        · exact h
        · have := Int.mul_le_mul_of_nonneg_left h (show 0 ≤ b by omega)
          omega
      · rw [if_neg hc] at hlt ⊢
        exact ih (by omega) d hd hlt
theorem leM_id (l : List Int) (long : Nat) : leL (mul l ((1 : Nat) : Int)) long = leL l long := by rw [show ((1 : Nat) : Int) = 1 from rfl, mul_id]
/-- Further dens bring nothing. -/
theorem shR_on {l : List Int} {long : Nat} (hn : Nds l) (hl1 : 1 ≤ long) (hl : long ≤ l.length) : ∀ k, max 2 (long + 1) ≤ k → k ≤ 13 → shR l long k = shR l long (max 2 (long + 1)) := by
  intro k
  induction k with
  | zero => intro h; omega
  | succ k ih =>
    intro hk hk13
    rcases (by omega : max 2 (long + 1) ≤ k ∨ max 2 (long + 1) = k + 1) with h | h
    · have hi := ih h (by omega)
      rw [shR_succ l long (by omega), hi]
      have hr := (sh_roundM hn hl1 hl (share_is (l := l) hl1) (k := k) (by omega) (by omega)).2
      rw [if_neg (by rw [Int.mul_comm (shR l long _).1]; omega)]
    · rw [h]
/-- Lowest terms. -/
theorem shR_low {l : List Int} {long : Nat} (hn : Nds l) (hl1 : 1 ≤ long) (hl : long ≤ l.length) {a b : Nat} (ha : (shR l long (max 2 (long + 1))).1 = a) (hb : (shR l long (max 2 (long + 1))).2 = b) : Nat.gcd a b = 1 := by
  have hs := share_is (l := l) (long := long) hl1
  have hfst := shR_first (l := l) (long := long) (max 2 (long + 1)) (by omega)
  have h12 := hn.2.1
  rw [ha, hb] at hs hfst
  obtain ⟨d, e1, e2, e3, e4⟩ := hs.q
  have hb1 : 1 ≤ b := by omega
  have hg0 : 0 < Nat.gcd a b := Nat.gcd_pos_of_pos_right _ hb1
  obtain ⟨x, hx⟩ := Nat.gcd_dvd_left a b
  obtain ⟨y, hy⟩ := Nat.gcd_dvd_right a b
  generalize hg : Nat.gcd a b = g at *
  rcases (by omega : g = 1 ∨ 2 ≤ g) with h | h
  · exact h
  exfalso
  have hy1 : 1 ≤ y := by
    rcases Nat.eq_zero_or_pos y with h | h
    · rw [h] at hy; omega
    · exact h
  have hyb : y < b := by
    rw [hy]
    have := Nat.mul_le_mul_right y h
    omega
  have h1 := hfst y hy1 (by omega)
  have h2 := (sh_roundM hn hl1 hl hs (k := y) hy1 (by omega)).1
  generalize (leL (mul l (y : Int)) long : Int) = z at *
  have hax : (a : Int) * y = x * b := by
    have : a * y = x * b := by rw [hx, hy]; grind
    exact_mod_cast this
  rw [hax] at h1
  rw [Int.mul_comm (y : Int), hax] at h2
  have q1 := Int.lt_of_mul_lt_mul_right h1 (by omega)
  have q2 := Int.lt_of_mul_lt_mul_right h2 (by omega)
  omega
end Go.Tri
