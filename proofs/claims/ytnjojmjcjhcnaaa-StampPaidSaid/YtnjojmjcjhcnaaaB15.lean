/-
  CONTRACTS: the reference's In and With.
-/
import Derived.Test.YtnjojmjcjhcnaaaM2
namespace Go.Tri
open Go.Proofs

theorem refIn_pure (v : List Int) (x : Int) : APure Try.prog 38 [.ints false v, .int x] (fun R => R = .bool (decide (x ∈ v))) := by
  refine APure_of (X := cx 18) (cx_ok 18) rfl (rs := [(.tmp 4, 4)]) Try.func38 (by decide) rfl rfl rfl (by simp [cx]) (by simp [NoFr]) ?_
  intro hlen
  have hla : (v.length : Int) ≤ 9223372036854775807 := hlen (.ints false v) (by simp)
  conv => whnf
  refine AW_loop (X := cx 18) (cx_ok 18) [0, 1, 5] (fun vs M => ∃ k : Nat, k ≤ v.length ∧ (∀ j, j < k → v.getD j 0 ≠ x) ∧ vs = [.ints false v, .int x, .int k] ∧ M = []) (fun vs _ => v.length - (vs.getD 2 .any).toInt.toNat) ?_ ?_
  · exact ⟨0, Nat.zero_le _, fun j hj => absurd hj (by omega), rfl, rfl⟩
  rintro vs M ⟨k, hk, hkx, rfl, rfl⟩
  conv => whnf
  refine br_dec (fun hlt => ?_) (fun hge => ?_)
  · have hk' : k < v.length := by omega
    conv => whnf
    repeat ((first | refine ⟨by omega, ?_⟩ | refine ⟨inr (by omega), ?_⟩ | refine eqn_self ?_ | refine ⟨ms (by omega), ?_⟩ | refine ⟨ms (by simp only [Src.n]; omega), ?_⟩ | refine ⟨msk (by omega), ?_⟩ | refine ⟨ms1, ?_⟩); conv => whnf)
    refine br_eq (fun h => ?_) (fun h => ?_)
    · have hm : decide (x ∈ v) = true := decide_eq_true (h ▸ getD_mem' hk')
      rw [hm]
      conv => whnf
      exact ⟨trivial, rfl⟩
    · conv => whnf
      repeat ((first | refine ⟨by omega, ?_⟩ | refine ⟨inr (by omega), ?_⟩ | refine eqn_self ?_ | refine ⟨ms (by omega), ?_⟩ | refine ⟨ms (by simp only [Src.n]; omega), ?_⟩ | refine ⟨msk (by omega), ?_⟩ | refine ⟨ms1, ?_⟩); conv => whnf)
      refine ⟨⟨k + 1, by omega, fun j hj => ?_, rfl, rfl⟩, ?_⟩
      · rcases (by omega : j = k ∨ j < k) with rfl | h1
        · exact h
        · exact hkx j h1
      · simp [V.toInt, sel, Env.get]; omega
  · have hm : decide (x ∈ v) = false := by
      refine decide_eq_false (fun hx => ?_)
      obtain ⟨i, hi, e⟩ := mem_getD hx
      exact hkx i (by omega) e
    rw [hm]
    conv => whnf
    exact ⟨trivial, rfl⟩

theorem ms8 {n m : Nat} (h : m ≤ 1000) : (((cx n).T.row 3).bs : Int) * (m : Int) ≤ 140737488355328 := by
  show (8 : Int) * (m : Int) ≤ _
  omega
theorem ms8k {n m k : Nat} (h : m + k ≤ 1000) : (((cx n).T.row 3).bs : Int) * ((m : Int) + (k : Int)) ≤ 140737488355328 := by
  show (8 : Int) * ((m : Int) + (k : Int)) ≤ _
  omega
set_option maxRecDepth 100000 in
theorem refWith_pure (v : List Int) (x : Int) (h6 : v.length ≤ 30) : APure Try.prog 39 [.ints false v, .int x] (fun R => R = .ints true (withL v x)) := by
  refine APure_of (X := cx 35) (cx_ok 35) rfl (rs := [(.tmp 4, 22)]) Try.func39 (by decide) rfl rfl rfl (by simp [cx]) (by simp [NoFr]) ?_
  intro hlen
  conv => whnf
  refine AW_loop (X := cx 35) (cx_ok 35) [0, 1, 5, 6] (fun vs M => ∃ k : Nat, k ≤ v.length ∧ (∀ j, j < k → v.getD j 0 < x) ∧ vs = [.ints false v, .int x, .emp true, .int k] ∧ M = []) (fun vs _ => v.length - (vs.getD 3 .any).toInt.toNat) ?_ ?_
  · exact ⟨0, Nat.zero_le _, fun j hj => absurd hj (by omega), rfl, rfl⟩
  rintro vs M ⟨k, hk, hkx, rfl, rfl⟩
  conv => whnf
  refine br_dec (fun hlt => ?_) (fun hge => ?_)
  · have hk' : k < v.length := by omega
    conv => whnf
    repeat ((first | refine ⟨by omega, ?_⟩ | refine ⟨inr (by omega), ?_⟩ | refine eqn_self ?_ | refine ⟨ms (by omega), ?_⟩ | refine ⟨ms (by simp only [Src.n]; omega), ?_⟩ | refine ⟨msk (by omega), ?_⟩ | refine ⟨ms1, ?_⟩); conv => whnf)
    refine br_dec (fun h => ?_) (fun h => ?_)
    · conv => whnf
      repeat ((first | refine ⟨by omega, ?_⟩ | refine ⟨inr (by omega), ?_⟩ | refine eqn_self ?_ | refine ⟨ms (by omega), ?_⟩ | refine ⟨ms (by simp only [Src.n]; omega), ?_⟩ | refine ⟨msk (by omega), ?_⟩ | refine ⟨ms1, ?_⟩); conv => whnf)
      refine ⟨⟨k + 1, by omega, fun j hj => ?_, rfl, rfl⟩, ?_⟩
      · rcases (by omega : j = k ∨ j < k) with rfl | h1
        · exact h
        · exact hkx j h1
      · simp [V.toInt, sel, Env.get]; omega
    · have ek := insK_eq hk hkx (fun _ => h)
      conv => whnf
      repeat ((first | refine ⟨(show (0 : Int) ≤ 0 from Int.le_refl _), ?_⟩ | refine ⟨(show (0 : Int) ≤ (k : Int) by omega), ?_⟩ | refine ⟨(show (k : Int) ≤ (v.length : Int) by omega), ?_⟩); conv => whnf)
      generalize hS : (List.take (((some (k : Int)).getD (v.length : Int)).toNat - ((none : Option Int).getD 0).toNat) (List.drop ((none : Option Int).getD 0).toNat v)) = S
      have eS : S = v.take k := by rw [← hS]; simp
      have lS : S.length = k := by rw [eS, List.length_take]; omega
      refine ⟨ms8 (show S.length ≤ 1000 by omega), ?_⟩
      conv => whnf
      repeat (refine eqn_self ?_; conv => whnf)
      refine ⟨ms8k (show S.length + 1 ≤ 1000 by omega), ?_⟩
      conv => whnf
      repeat ((first | refine ⟨(show (0 : Int) ≤ (k : Int) by omega), ?_⟩ | refine ⟨(show (k : Int) ≤ (v.length : Int) by omega), ?_⟩ | refine ⟨(show (v.length : Int) ≤ (v.length : Int) by omega), ?_⟩); conv => whnf)
      generalize hS2 : (List.take ((((none : Option Int)).getD (v.length : Int)).toNat - ((some (k : Int)).getD 0).toNat) (List.drop ((some (k : Int)).getD 0).toNat v)) = S2
      have eS2 : S2 = v.drop k := by rw [← hS2]; simp [List.take_of_length_le]
      have lS2 : S2.length ≤ 30 := by rw [eS2, List.length_drop]; omega
      repeat (refine eqn_self ?_; conv => whnf)
      refine ⟨ms8k (show S.length + 1 + S2.length ≤ 1000 by omega), ?_⟩
      conv => whnf
      repeat ((first | refine ⟨by omega, ?_⟩ | refine ⟨inr (by omega), ?_⟩ | refine eqn_self ?_ | refine ⟨ms (by omega), ?_⟩ | refine ⟨ms (by simp only [Src.n]; omega), ?_⟩ | refine ⟨msk (by omega), ?_⟩ | refine ⟨ms1, ?_⟩); conv => whnf)
      first | refine ⟨trivial, Ql ?_⟩ | refine ⟨rfl, Ql ?_⟩
      show ((((S.take S.length ++ [x]).take (S.length + 1) ++ S2).drop 0).take (S.length + 1 + S2.length)) = withL v x
      rw [List.drop_zero, List.take_of_length_le (by simp), List.take_length, List.take_of_length_le (by simp), eS, eS2, ek]
      rfl
  · have ek := insK_eq (x := x) hk hkx (fun h => absurd h (by omega))
    conv => whnf
    repeat ((first | refine ⟨(show (0 : Int) ≤ 0 from Int.le_refl _), ?_⟩ | refine ⟨(show (0 : Int) ≤ (k : Int) by omega), ?_⟩ | refine ⟨(show (k : Int) ≤ (v.length : Int) by omega), ?_⟩); conv => whnf)
    generalize hS : (List.take (((some (k : Int)).getD (v.length : Int)).toNat - ((none : Option Int).getD 0).toNat) (List.drop ((none : Option Int).getD 0).toNat v)) = S
    have eS : S = v.take k := by rw [← hS]; simp
    have lS : S.length = k := by rw [eS, List.length_take]; omega
    refine ⟨ms8 (show S.length ≤ 1000 by omega), ?_⟩
    conv => whnf
    repeat (refine eqn_self ?_; conv => whnf)
    refine ⟨ms8k (show S.length + 1 ≤ 1000 by omega), ?_⟩
    conv => whnf
    repeat ((first | refine ⟨(show (0 : Int) ≤ (k : Int) by omega), ?_⟩ | refine ⟨(show (k : Int) ≤ (v.length : Int) by omega), ?_⟩ | refine ⟨(show (v.length : Int) ≤ (v.length : Int) by omega), ?_⟩); conv => whnf)
    generalize hS2 : (List.take ((((none : Option Int)).getD (v.length : Int)).toNat - ((some (k : Int)).getD 0).toNat) (List.drop ((some (k : Int)).getD 0).toNat v)) = S2
    have eS2 : S2 = v.drop k := by rw [← hS2]; simp [List.take_of_length_le]
    have lS2 : S2.length ≤ 30 := by rw [eS2, List.length_drop]; omega
    repeat (refine eqn_self ?_; conv => whnf)
    refine ⟨ms8k (show S.length + 1 + S2.length ≤ 1000 by omega), ?_⟩
    conv => whnf
    repeat ((first | refine ⟨by omega, ?_⟩ | refine ⟨inr (by omega), ?_⟩ | refine eqn_self ?_ | refine ⟨ms (by omega), ?_⟩ | refine ⟨ms (by simp only [Src.n]; omega), ?_⟩ | refine ⟨msk (by omega), ?_⟩ | refine ⟨ms1, ?_⟩); conv => whnf)
    first | refine ⟨trivial, Ql ?_⟩ | refine ⟨rfl, Ql ?_⟩
    show ((((S.take S.length ++ [x]).take (S.length + 1) ++ S2).drop 0).take (S.length + 1 + S2.length)) = withL v x
    rw [List.drop_zero, List.take_of_length_le (by simp), List.take_length, List.take_of_length_le (by simp), eS, eS2, ek]
    rfl
end Go.Tri
