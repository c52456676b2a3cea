/-
 LIMITS: what they are, and that rents without envy lie between them.
-/
import Derived.Test.YtpolaegggclhcaaGreatM17
namespace Go.Tri
open Go.Proofs
variable {n : Nat} {W : Nat → List Int} {z : List Int} {d : Int}

theorem ratP_is (a : Int) {b : Int} (hb : 1 ≤ b) : ∃ p q g : Int, ratP a b = pairV p q ∧ 1 ≤ g ∧ p * g = a ∧ q * g = b ∧ 1 ≤ q ∧ q ≤ b := by
 have hg := gR_pos (a := a) hb
 have h1 : gR a b ∣ a := Int.ofNat_dvd_left.2 (Nat.gcd_dvd_left _ _)
 have h2 : gR a b ∣ b := Int.ofNat_dvd_left.2 (Nat.gcd_dvd_right _ _)
 have e2 := Int.tdiv_mul_cancel h2
 refine ⟨a.tdiv (gR a b), b.tdiv (gR a b), gR a b, rfl, hg, Int.tdiv_mul_cancel h1, e2, ?_, ?_⟩
 ·rcases (by omega : b.tdiv (gR a b) ≤ 0 ∨ 1 ≤ b.tdiv (gR a b)) with h | h
  ·have := Int.mul_nonpos_of_nonpos_of_nonneg h (show 0 ≤ gR a b by omega)
   omega
  ·exact h
 ·rcases (by omega : b.tdiv (gR a b) ≤ 0 ∨ 1 ≤ b.tdiv (gR a b)) with h | h
  ·omega
  ·have := Int.mul_le_mul_of_nonneg_left hg (show 0 ≤ b.tdiv (gR a b) by omega)
   omega
theorem fac_bd {p g a c : Int} (hg : 1 ≤ g) (h1 : p * g = a) (hc : 0 ≤ c) (ha : -c ≤ a ∧ a ≤ c) : -c ≤ p ∧ p ≤ c := by
 constructor
 ·rcases (by omega : 0 ≤ p ∨ p ≤ 0) with h | h
  ·omega
  ·have := Int.mul_le_mul_of_nonpos_left (a := p) h hg
   omega
 ·rcases (by omega : 0 ≤ p ∨ p ≤ 0) with h | h
  ·have := Int.mul_le_mul_of_nonneg_left hg h
   omega
  ·omega
theorem coS_sN {k : Nat} : ∀ m, coS n W k m = sN (fun j => drr n W j k) m
 | 0 => rfl
 | m + 1 => by simp only [coS, sN]; rw [coS_sN m]
theorem drr_self {k : Nat} (hk : k < n) : drr n W k k = 0 := (drr_base n W).self hk
theorem low_high {k : Nat} (hk : k < n) : -roS n W k ≤ coS n W k n := by
 have h : sN (fun _ => 0) n ≤ sN (fun j => drr n W k j + drr n W j k) n := sN_le n fun j hj => by
  have := drr_tri n W j hj k k hk hk
  rw [drr_self hk] at this
  exact this
 rw [sN_zero] at h
 have e : ∀ m, sN (fun j => drr n W k j + drr n W j k) m = sN (drr n W k) m + sN (fun j => drr n W j k) m := by
  intro m
  induction m with
  | zero => rfl
  | succ m ih => simp only [sN]; rw [ih]; omega
 rw [e, ← roS_sN, ← coS_sN] at h
 omega
theorem sN_out1 {c : Int} (f : Nat → Int) : ∀ m : Nat, sN (fun j => f j - c) m = sN f m - m * c := by
 intro m
 induction m with
 | zero => simp [sN]
 | succ m ih => simp only [sN]; rw [ih]; grind
theorem sN_out2 {c : Int} (f : Nat → Int) : ∀ m : Nat, sN (fun j => c - f j) m = m * c - sN f m := by
 intro m
 induction m with
 | zero => simp [sN]
 | succ m ih => simp only [sN]; rw [ih]; grind
theorem fits_between (hR : Rts n W z d) (hF : Fits n W z d) {k : Nat} (hk : k < n) : (sumL (W 0) n - roS n W k) * d ≤ n * z.getD k 0 ∧ n * z.getD k 0 ≤ (sumL (W 0) n + coS n W k n) * d := by
 have hs : sN (fun j => z.getD j 0) n = sumL (W 0) n * d := by
  rw [← hR.2, sumL_sN]
 have h1 := sN_le n fun l hl => hF k hk l hl
 have h2 := sN_le n fun l hl => hF l hl k hk
 rw [sN_out1, sN_mulr, hs, ← roS_sN] at h1
 rw [sN_out2, sN_mulr, hs, ← coS_sN] at h2
 rw [Int.sub_mul, Int.add_mul]
 omega
theorem rN_k (hW : Wis n W) {k : Nat} (hk : k < n) : rN n W k |>.getD k 0 |> fun x => x * n = (sumL (W 0) n - roS n W k) * rD n W k := by
 obtain ⟨g, hg, e1, e2, e3⟩ := rN_fac (k := k) hW
 show (rN n W k).getD k 0 * n = _
 have e := e3 k hk
 rw [drr_self hk, Int.mul_zero, Int.add_zero] at e
 rw [← e, ← e1, Int.mul_assoc, Int.mul_comm (rD n W k) g, ← Int.mul_assoc]
theorem cancel_g {a b g : Int} (hg : 1 ≤ g) (h : a * g = b * g) : a = b := Int.eq_of_mul_eq_mul_right (show g ≠ 0 by omega) h
theorem cancel_le {a b g : Int} (hg : 1 ≤ g) (h : a * g ≤ b * g) : a ≤ b := Int.le_of_mul_le_mul_right h (by omega)
theorem mul_in {x y X Y : Int} (hx : -X ≤ x ∧ x ≤ X) (hy : 0 ≤ y ∧ y ≤ Y) (h : X * Y ≤ 9000000000000000000) : InR (x * y) := by
 have h0 : 0 ≤ X := by omega
 have a1 : x * y ≤ X * y := Int.mul_le_mul_of_nonneg_right hx.2 hy.1
 have a2 : -X * y ≤ x * y := Int.mul_le_mul_of_nonneg_right hx.1 hy.1
 have a3 : X * y ≤ X * Y := Int.mul_le_mul_of_nonneg_left hy.2 h0
 rw [Int.neg_mul] at a2
 exact inr (by omega)
theorem cross_eq {p q g a m : Int} (h1 : p * g = a) (h2 : q * g = m) : p * m = a * q := by rw [← h1, ← h2]; grind
theorem cross_le {p q g a p' q' g' a' m : Int} (hm : 0 ≤ m) (hg : 1 ≤ g) (hg' : 1 ≤ g') (h1 : p * g = a) (h2 : q * g = m) (h3 : p' * g' = a') (h4 : q' * g' = m) (h : a ≤ a') : p * q' ≤ p' * q := by
 refine cancel_le hg (cancel_le hg' ?_)
 have e1 : p * q' * g * g' = a * m := by rw [← h1, ← h4]; grind
 have e2 : p' * q * g * g' = a' * m := by rw [← h3, ← h2]; grind
 rw [e1, e2]
 exact Int.mul_le_mul_of_nonneg_right h hm
theorem cross_lo {p q g a m x d : Int} (hg : 1 ≤ g) (h1 : p * g = a) (h2 : q * g = m) (h : a * d ≤ m * x) : p * d ≤ x * q := by
 refine cancel_le hg ?_
 have e1 : p * d * g = a * d := by rw [← h1]; grind
 have e2 : x * q * g = m * x := by rw [← h2]; grind
 rw [e1, e2]
 exact h
theorem cross_hi {p q g a m x d : Int} (hg : 1 ≤ g) (h1 : p * g = a) (h2 : q * g = m) (h : m * x ≤ a * d) : x * q ≤ p * d := by
 refine cancel_le hg ?_
 have e1 : p * d * g = a * d := by rw [← h1]; grind
 have e2 : x * q * g = m * x := by rw [← h2]; grind
 rw [e1, e2]
 exact h
theorem cross_rn {p q g a m x d : Int} (hg : 1 ≤ g) (h1 : p * g = a) (h2 : q * g = m) (h : x * m = a * d) : x * q = p * d := by
 refine cancel_g hg ?_
 have e1 : p * d * g = a * d := by rw [← h1]; grind
 have e2 : x * q * g = x * m := by rw [← h2]; grind
 rw [e1, e2]
 exact h
end Go.Tri
