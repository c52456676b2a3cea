/-
  CONTRACTS: the divisors, ratios in lowest terms.
-/
import Derived.Test.YtjcjjakmggfmcaaB4
namespace Go.Tri
open Go.Proofs

@[reducible] def agg2 (a b : Int) : V := .agg 2 fun k => match k with | 0 => .int a | 1 => .int b | _ => .any

theorem tmod_nat (p q : Nat) : ((p : Int).tmod (q : Int)) = ((p % q : Nat) : Int) := by
  rw [Int.ofNat_tmod]
theorem gcd_step (p q : Nat) : Nat.gcd q (p % q) = Nat.gcd p q := by
  rw [Nat.gcd_comm q, ← Nat.gcd_rec, Nat.gcd_comm]

theorem divisor_pure (a b : Nat) : APure Try.prog 69 [.int a, .int b] (fun R => R = .int (Nat.gcd a b)) := by
  refine APure_of (X := cx 12) (cx_ok 12) rfl (rs := [(.tmp 4, 3)]) Try.func69 (by decide) rfl rfl rfl (by simp [cx]) (by simp [NoFr]) ?_
  intro _
  conv => whnf
  refine AW_loop (X := cx 12) (cx_ok 12) [0, 1] (fun vs M => ∃ p q : Nat, Nat.gcd p q = Nat.gcd a b ∧ vs = [.int p, .int q] ∧ M = []) (fun vs _ => (vs.getD 1 .any).toInt.toNat) ?_ ?_
  · exact ⟨a, b, rfl, rfl, rfl⟩
  · rintro vs M ⟨p, q, hg, rfl, rfl⟩
    conv => whnf
    refine br_ne (fun h => ?_) (fun h => ?_)
    · have hq0 : 0 < q := by omega
      conv => whnf
      refine AW_draw (X := cx 12) (cx_ok 12) mixed (by kernel_rfl) ?_
      conv => whnf
      refine ⟨h, ?_⟩
      conv => whnf
      refine ⟨⟨q, p % q, by rw [gcd_step]; exact hg, by rw [← tmod_nat]; rfl, rfl⟩, ?_⟩
      have hlt := Nat.mod_lt p hq0
      show ((p : Int).tmod (q : Int)).toNat < q
      rw [tmod_nat, Int.toNat_natCast]
      exact hlt
    · conv => whnf
      have hq0 : q = 0 := by omega
      subst hq0
      exact ⟨trivial, Qi (by rw [← hg, Nat.gcd_zero_right])⟩

theorem maxI_neg {p : Nat} : maxI (p : Int) (-(p : Int)) = p := by unfold maxI; split <;> omega

theorem Gcd_pure (a b : Nat) (ha : a ≤ 100000000) (hb : b ≤ 100000000) : APure Try.prog 68 [.int a, .int b] (fun R => R = .int (Nat.gcd a b)) := by
  refine APure_of (X := cx 15) (cx_ok 15) rfl (rs := [(.tmp 4, 3)]) Try.func68 (by decide) rfl rfl rfl (by simp [cx]) (by simp [NoFr]) ?_
  intro _
  conv => whnf
  refine AW_loop (X := cx 15) (cx_ok 15) [0, 1] (fun vs M => ∃ p q : Nat, p ≤ 100000000 ∧ q ≤ 100000000 ∧ Nat.gcd p q = Nat.gcd a b ∧ vs = [.int p, .int q] ∧ M = []) (fun vs _ => (vs.getD 1 .any).toInt.toNat) ?_ ?_
  · exact ⟨a, b, ha, hb, rfl, rfl, rfl⟩
  · rintro vs M ⟨p, q, hp, hq, hg, rfl, rfl⟩
    conv => whnf
    refine br_ne (fun h => ?_) (fun h => ?_)
    · have hq0 : 0 < q := by omega
      conv => whnf
      refine AW_draw (X := cx 15) (cx_ok 15) mixed (by kernel_rfl) ?_
      conv => whnf
      refine ⟨h, ?_⟩
      conv => whnf
      refine ⟨⟨q, p % q, hq, (by have := Nat.mod_lt p hq0; omega), by rw [gcd_step]; exact hg, by rw [← tmod_nat]; rfl, rfl⟩, ?_⟩
      have hlt := Nat.mod_lt p hq0
      show ((p : Int).tmod (q : Int)).toNat < q
      rw [tmod_nat, Int.toNat_natCast]
      exact hlt
    · conv => whnf
      have hq0 : q = 0 := by omega
      subst hq0
      repeat ((first | refine ⟨by omega, ?_⟩ | refine ⟨inr (by omega), ?_⟩ | refine eqn_self ?_ | refine ⟨ms (by omega), ?_⟩ | refine ⟨ms (by simp only [Src.n]; omega), ?_⟩ | refine ⟨msk (by omega), ?_⟩ | refine ⟨ms1, ?_⟩); conv => whnf)
      exact ⟨trivial, Qi (by rw [maxI_neg, ← hg, Nat.gcd_zero_right])⟩

theorem Fr_agg2 (a b : Int) : Fr (agg2 a b) := fun k hk => match k, hk with
  | 0, _ => trivial
  | 1, _ => trivial
  | k + 2, h => by omega
theorem res_agg {x : V} {a b : Int} (h : x = agg2 a b) : Fr x ∧ x = agg2 a b := ⟨by rw [h]; exact Fr_agg2 a b, h⟩

theorem lowest_pure (a b : Nat) (ha : a ≤ 100000000) (hb : 0 < b) (hb2 : b ≤ 100000000) : APure Try.prog 44 [.int a, .int b] (fun R => R = agg2 ((a / Nat.gcd a b : Nat) : Int) ((b / Nat.gcd a b : Nat) : Int)) := by
  have hg : 0 < Nat.gcd a b := Nat.gcd_pos_of_pos_right _ hb
  have e1 : ((a : Int).tdiv (Nat.gcd a b : Nat)) = ((a / Nat.gcd a b : Nat) : Int) := (Int.ofNat_tdiv a _).symm
  have e2 : ((b : Int).tdiv (Nat.gcd a b : Nat)) = ((b / Nat.gcd a b : Nat) : Int) := (Int.ofNat_tdiv b _).symm
  have l1 := Nat.div_le_self a (Nat.gcd a b)
  have l2 := Nat.div_le_self b (Nat.gcd a b)
  have b1 : -9223372036854775808 ≤ (a : Int).tdiv (Nat.gcd a b : Nat) ∧ (a : Int).tdiv (Nat.gcd a b : Nat) ≤ 9223372036854775807 := by rw [e1]; generalize a / Nat.gcd a b = x at *; omega
  have b2 : -9223372036854775808 ≤ (b : Int).tdiv (Nat.gcd a b : Nat) ∧ (b : Int).tdiv (Nat.gcd a b : Nat) ≤ 9223372036854775807 := by rw [e2]; generalize b / Nat.gcd a b = x at *; omega
  refine APure_of (X := cx 16) (cx_ok 16) rfl (rs := [(.cell 4 26, 26)]) Try.func44 (by decide) rfl rfl rfl (by simp [cx]) (by simp [NoFr]) ?_
  intro _
  conv => whnf
  refine APure.to (divisor_pure a b) ?_
  conv => whnf
  refine AW_draw (X := cx 16) (cx_ok 16) mixed (by kernel_rfl) ?_
  conv => whnf
  repeat ((first | refine ⟨by omega, ?_⟩ | refine ⟨inr b1, ?_⟩ | refine ⟨inr b2, ?_⟩); conv => whnf)
  refine res_agg ?_
  refine congrArg (V.agg 2) (funext fun k => ?_)
  match k with
  | 0 => exact Qi e1
  | 1 => exact Qi e2
  | k + 2 => rfl
end Go.Tri
