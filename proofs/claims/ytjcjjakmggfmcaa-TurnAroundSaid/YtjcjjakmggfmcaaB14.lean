/-
  CONTRACTS: the claims of Fair.
-/
import Derived.Test.YtjcjjakmggfmcaaB13
namespace Go.Tri
open Go.Proofs

@[reducible] def at1 (x : Int) : V := .at_ 1 (fun _ => .int x) 0
@[reducible] def cloS (total slots : Int) : V := .clo 55 2 fun k => at1 (bif Nat.beq k 0 then total else slots)
@[reducible] def atS (total slots : Int) : V := .at_ 1 (fun _ => cloS total slots) 0
@[reducible] def cloR (total slots : Int) : V := .clo 54 2 fun k => at1 (bif Nat.beq k 0 then slots else total)
@[reducible] def cloB (total slots : Int) : V := .clo 56 1 fun _ => atS total slots

def slk (T S x : Int) : Int := T * (S - 1) - x * S
theorem slk_bd {T S x : Int} (hT : 0 ≤ T ∧ T ≤ 160) (hS : 1 ≤ S ∧ S ≤ 14) (hx : -100000 ≤ x ∧ x ≤ 100000) : (0 ≤ T * (S - 1) ∧ T * (S - 1) ≤ 160 * 13) ∧ (-1400000 ≤ x * S ∧ x * S ≤ 1400000) ∧ -2000000 ≤ slk T S x ∧ slk T S x ≤ 2000000 := by
  have h1 := mul_bd (a := T) (b := S - 1) (B := 160) (C := 13) (by omega) (by omega) (by omega) (by omega)
  have h2 : x * S ≤ 100000 * 14 := Int.le_trans (Int.mul_le_mul_of_nonneg_right hx.2 (by omega)) (Int.mul_le_mul_of_nonneg_left hS.2 (by omega))
  have h3 : (-100000) * S ≤ x * S := Int.mul_le_mul_of_nonneg_right hx.1 (by omega)
  unfold slk
  omega
theorem mul_bd2 {x y : Int} (hx : -2000000 ≤ x ∧ x ≤ 2000000) (hy : 0 ≤ y ∧ y ≤ 20) : -40000000 ≤ x * y ∧ x * y ≤ 40000000 := by
  have h1 : x * y ≤ 2000000 * 20 := Int.le_trans (Int.mul_le_mul_of_nonneg_right hx.2 (by omega)) (Int.mul_le_mul_of_nonneg_left hy.2 (by omega))
  have h2 : (-2000000) * y ≤ x * y := Int.mul_le_mul_of_nonneg_right hx.1 (by omega)
  omega

section
variable {T S : Int} (hT : 0 ≤ T ∧ T ≤ 160) (hS : 1 ≤ S ∧ S ≤ 14)
include hT hS

theorem fr1_pure (a b : Int) (hb : -100000 ≤ b ∧ b ≤ 100000) : APure Try.prog 54 [agg2 a b, at1 S, at1 T] (fun R => R = .bool (decide (b * S ≥ T))) := by
  have := (slk_bd hT hS hb).2.1
  refine APure_of (X := cx 11) (cx_ok 11) rfl (rs := [(.tmp 4, 4)]) Try.func54 (by decide) rfl rfl rfl (by simp [cx]) ?_ ?_
  · intro x hx
    rcases List.mem_cons.1 hx with rfl | hx
    · exact NoFr_agg2 _ _
    rcases List.mem_cons.1 hx with rfl | hx
    · exact fun _ => trivial
    · rw [List.mem_singleton.1 hx]; exact fun _ => trivial
  intro _
  conv => whnf
  repeat ((first | refine ⟨by omega, ?_⟩ | refine ⟨inr (by omega), ?_⟩ | refine eqn_self ?_ | refine ⟨ms (by omega), ?_⟩ | refine ⟨ms (by simp only [Src.n]; omega), ?_⟩ | refine ⟨msk (by omega), ?_⟩ | refine ⟨ms1, ?_⟩); conv => whnf)
  exact ⟨trivial, rfl⟩

theorem fr2_pure (a b : Int) (hb : -100000 ≤ b ∧ b ≤ 100000) : APure Try.prog 55 [agg2 a b, at1 T, at1 S] (fun R => R = .int (slk T S b)) := by
  obtain ⟨h1, h2, h3⟩ := slk_bd hT hS hb
  unfold slk at h3 ⊢
  refine APure_of (X := cx 14) (cx_ok 14) rfl (rs := [(.tmp 4, 3)]) Try.func55 (by decide) rfl rfl rfl (by simp [cx]) ?_ ?_
  · intro x hx
    rcases List.mem_cons.1 hx with rfl | hx
    · exact NoFr_agg2 _ _
    rcases List.mem_cons.1 hx with rfl | hx
    · exact fun _ => trivial
    · rw [List.mem_singleton.1 hx]; exact fun _ => trivial
  intro _
  conv => whnf
  repeat ((first | refine ⟨by omega, ?_⟩ | refine ⟨inr (by omega), ?_⟩ | refine eqn_self ?_ | refine ⟨ms (by omega), ?_⟩ | refine ⟨ms (by simp only [Src.n]; omega), ?_⟩ | refine ⟨msk (by omega), ?_⟩ | refine ⟨ms1, ?_⟩); conv => whnf)
  exact ⟨trivial, rfl⟩

theorem fr3_pure (a b c d : Int) (ha : 0 ≤ a ∧ a ≤ 20) (hb : -100000 ≤ b ∧ b ≤ 100000) (hc : 0 ≤ c ∧ c ≤ 20) (hd : -100000 ≤ d ∧ d ≤ 100000) :
    APure Try.prog 56 [agg2 a b, agg2 c d, atS T S] (fun R => R = .bool (decide (slk T S b * c < slk T S d * a))) := by
  have m1 := mul_bd2 (slk_bd hT hS hb).2.2 hc
  have m2 := mul_bd2 (slk_bd hT hS hd).2.2 ha
  refine APure_of (X := cx 19) (cx_ok 19) rfl (rs := [(.tmp 5, 4)]) Try.func56 (by decide) rfl rfl rfl (by simp [cx]) ?_ ?_
  · intro x hx
    rcases List.mem_cons.1 hx with rfl | hx
    · exact NoFr_agg2 _ _
    rcases List.mem_cons.1 hx with rfl | hx
    · exact NoFr_agg2 _ _
    · rw [List.mem_singleton.1 hx]
      exact fun _ _ _ => trivial
  intro _
  conv => whnf
  refine AW_draw (X := cx 19) (cx_ok 19) mixed (by kernel_rfl) ?_
  conv => whnf
  refine ⟨.int (slk T S b), APure.arg3 (agg2_alike rfl rfl) (sub_at fun _ _ => Sub.of rfl) (sub_at fun _ _ => Sub.of rfl) (fr2_pure hT hS a b hb), ?_⟩
  conv => whnf
  repeat ((first | refine ⟨by omega, ?_⟩ | refine ⟨inr (by omega), ?_⟩ | refine eqn_self ?_ | refine ⟨ms (by omega), ?_⟩ | refine ⟨ms (by simp only [Src.n]; omega), ?_⟩ | refine ⟨msk (by omega), ?_⟩ | refine ⟨ms1, ?_⟩); conv => whnf)
  refine ⟨.int (slk T S d), APure.arg3 (agg2_alike rfl rfl) (sub_at fun _ _ => Sub.of rfl) (sub_at fun _ _ => Sub.of rfl) (fr2_pure hT hS c d hd), ?_⟩
  conv => whnf
  repeat ((first | refine ⟨by omega, ?_⟩ | refine ⟨inr (by omega), ?_⟩ | refine eqn_self ?_ | refine ⟨ms (by omega), ?_⟩ | refine ⟨ms (by simp only [Src.n]; omega), ?_⟩ | refine ⟨msk (by omega), ?_⟩ | refine ⟨ms1, ?_⟩); conv => whnf)
  exact ⟨trivial, rfl⟩
end
end Go.Tri
