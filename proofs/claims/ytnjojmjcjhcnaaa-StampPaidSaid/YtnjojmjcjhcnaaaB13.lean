/-
  CONTRACTS: bits.Mul of 1 and a number; slices.Repeat of one number.
-/
import Derived.Test.YtnjojmjcjhcnaaaB11
namespace Go.Tri
open Go.Proofs

theorem wrap_u64 {x : Int} (h : 0 ≤ x ∧ x < 18446744073709551616) : IntKind.u64.wrap x = x := by
  unfold IntKind.wrap
  simp [IntKind.signed, IntKind.bits]
  omega
theorem and_mask {n : Nat} (hn : n < 4294967296) : bitI .and .u64 n 4294967295 = n := by
  simp only [bitI]
  have : (BitVec.ofInt IntKind.u64.bits (n : Int) &&& BitVec.ofInt IntKind.u64.bits 4294967295).toNat = n := by
    rw [BitVec.toNat_and]
    show (BitVec.ofInt 64 (n : Int)).toNat &&& (BitVec.ofInt 64 4294967295).toNat = n
    rw [show (BitVec.ofInt 64 4294967295).toNat = 2 ^ 32 - 1 from by decide, Nat.and_two_pow_sub_one_eq_mod]
    simp
    omega
  rw [this]
  exact wrap_u64 (by omega)
theorem shr32 {n : Nat} (hn : n < 4294967296) : (n : Int).fdiv (2 ^ (min (32 : Int).toNat IntKind.u64.bits)) = 0 := by
  show (n : Int).fdiv 4294967296 = 0
  rw [Int.fdiv_eq_ediv_of_nonneg _ (by omega)]
  omega

theorem Mul64_pure (n : Nat) (hn : n < 4294967296) : APure Try.prog 74 [.lit (.int .u64 1), .lit (.int .u64 n)] (fun R => R = tup2 (.lit (.int .u64 0)) (.lit (.int .u64 n))) := by
  refine APure_of (X := cx 51) (cx_ok 51) rfl (rs := [(.tmp 4, 84), (.tmp 5, 84)]) Try.func74 (by decide) rfl rfl rfl (by simp [cx]) (by simp [NoFr]) ?_
  intro _
  have b1 : bitI .and .u64 1 4294967295 = 1 := by decide
  have b2 := and_mask hn
  have b3 := shr32 hn
  have s1 : (1 : Int).fdiv (2 ^ (min (32 : Int).toNat IntKind.u64.bits)) = 0 := by decide
  have z0 : IntKind.u64.wrap 0 = 0 := by decide
  have wn : IntKind.u64.wrap (1 * (n : Int)) = n := by rw [Int.one_mul]; exact wrap_u64 (by omega)
  have w0 : IntKind.u64.wrap (0 * (n : Int)) = 0 := by rw [Int.zero_mul]; exact z0
  have f0 : (0 : Int).fdiv (2 ^ (min (32 : Int).toNat IntKind.u64.bits)) = 0 := by decide
  have b0 : bitI .and .u64 0 4294967295 = 0 := by decide
  conv => whnf
  rw [b1, s1]
  refine ⟨by omega, ?_⟩
  conv => whnf
  rw [b2, b3]
  refine ⟨by omega, ?_⟩
  conv => whnf
  rw [wn, b3]
  refine ⟨by omega, ?_⟩
  conv => whnf
  rw [w0, show IntKind.u64.wrap (0 + 0) = 0 from z0, b0, f0]
  refine ⟨by omega, ?_⟩
  conv => whnf
  rw [show IntKind.u64.wrap (1 * 0) = 0 from z0, show IntKind.u64.wrap (0 + 0) = 0 from z0, f0, show IntKind.u64.wrap (0 * 0) = 0 from z0, show IntKind.u64.wrap (0 + 0) = 0 from z0]
  refine ⟨by omega, ?_⟩
  conv => whnf
  refine ⟨trivial, trivial, Q2 rfl ?_⟩
  show V.lit (.int .u64 (IntKind.u64.wrap (1 * (n : Int)))) = _
  rw [wn]
theorem Mul_pure (n : Nat) (hn : n < 4294967296) : APure Try.prog 66 [.lit (.int .u64 1), .lit (.int .u64 n)] (fun R => R = tup2 (.lit (.int .u64 0)) (.lit (.int .u64 n))) := by
  refine APure_of (X := cx 30) (cx_ok 30) rfl (rs := [(.tmp 4, 76), (.tmp 5, 76)]) Try.func66 (by decide) rfl rfl rfl (by simp [cx]) (by simp [NoFr]) ?_
  intro _
  conv => whnf
  refine APure.to (Mul64_pure n hn) ?_
  conv => whnf
  exact ⟨trivial, trivial, rfl⟩

theorem rep_first (x : Int) (n : Nat) (hn : 1 ≤ n) : (List.replicate n (0 : Int)).take 0 ++ (([x].drop 0).take 1).take n ++ (List.replicate n (0 : Int)).drop (0 + ((([x].drop 0).take 1).take n).length) = List.replicate 1 x ++ List.replicate (n - 1) 0 := by
  obtain ⟨m, rfl⟩ : ∃ m, n = m + 1 := ⟨n - 1, by omega⟩
  simp
theorem rep_step (x : Int) (n k : Nat) (hk : 1 ≤ k) (hkn : k < n) : (List.replicate k x ++ List.replicate (n - k) (0 : Int)).take (0 + k) ++ (((List.replicate k x ++ List.replicate (n - k) (0 : Int)).drop 0).take k).take (n - k) ++
    (List.replicate k x ++ List.replicate (n - k) (0 : Int)).drop (0 + k + ((((List.replicate k x ++ List.replicate (n - k) (0 : Int)).drop 0).take k).take (n - k)).length) = List.replicate (k + min k (n - k)) x ++ List.replicate (n - (k + min k (n - k))) 0 := by
  have e1 : ((List.replicate k x ++ List.replicate (n - k) (0 : Int)).drop 0).take k = List.replicate k x := by
    rw [List.drop_zero, List.take_left' (by simp)]
  have e2 : (List.replicate k x ++ List.replicate (n - k) (0 : Int)).take (0 + k) = List.replicate k x := by
    rw [Nat.zero_add, List.take_left' (by simp)]
  rw [e1, e2, List.take_replicate, List.length_replicate, Nat.zero_add, List.drop_append, List.drop_replicate, List.length_replicate, List.drop_replicate]
  rw [show k - (k + min (n - k) k) = 0 from by omega, show k + min (n - k) k - k = min (n - k) k from by omega, List.replicate_zero, List.nil_append, List.replicate_append_replicate, Nat.min_comm (n - k) k]
  congr 2
  omega
set_option maxRecDepth 100000 in
/-- Repeat of one number, of a list that lies in memory alone. -/
theorem Repeat_cm (x : Int) (n : Nat) (hn : 1 ≤ n ∧ n ≤ 100000) : ACM Try.prog 46 [.sl 0 0 0 1, .int n] [some ⟨3, 1, 0, .kil [x]⟩] (fun R M' => R = .sl 1 0 0 n ∧ M' = [some ⟨3, 1, 0, .kil [x]⟩, some ⟨3, 1, 0, .il (List.replicate n x)⟩]) := by
  refine ACM_of (T := tab) (wr := wrL) tab_ok Try.func46 (by decide) rfl (Nat.le_of_ble_eq_true rfl) (fun nb => ?_)
  have u1 : IntKind.u64.wrap 1 = 1 := by decide
  have un : IntKind.u64.wrap (n : Int) = n := wrap_u64 (by omega)
  conv => whnf
  have hm : APure Try.prog 66 [.lit (.int .u64 (IntKind.u64.wrap ((1 : Nat) : Int))), .lit (.int .u64 (IntKind.u64.wrap n))] (fun R => R = tup2 (.lit (.int .u64 0)) (.lit (.int .u64 n))) := by
    rw [un, show IntKind.u64.wrap ((1 : Nat) : Int) = 1 from u1]
    exact Mul_pure n (by omega)
  refine APure.to hm ?_
  conv => whnf
  refine br_dec (fun h => absurd h (by omega)) (fun _ => ?_)
  conv => whnf
  refine ⟨inr (by omega), ?_⟩
  conv => whnf
  refine ⟨(show (0 : Int) ≤ (n : Int) by omega), ?_⟩
  conv => whnf
  refine ⟨(show (n : Int) ≤ (n : Int) by omega), ?_⟩
  conv => whnf
  refine ⟨(show (8 : Int) * (n : Int) ≤ 140737488355328 by omega), ?_⟩
  conv => whnf
  refine ⟨(show (0 : Int) < (n : Int) by omega), ?_⟩
  conv => whnf
  refine ⟨(show (0 : Int) < ((1 : Nat) : Int) by omega), ?_⟩
  conv => whnf
  have hl1 : ((([x].drop 0).take 1).take n).length = 1 := by
    obtain ⟨m, rfl⟩ : ∃ m, n = m + 1 := ⟨n - 1, by omega⟩
    simp
  refine AW_loop (X := ⟨Try.prog, tab, wrL, 48, nb, false⟩) tab_ok [7, 8] (fun vs M => ∃ k : Nat, 1 ≤ k ∧ k ≤ n ∧ vs = [.sl 1 0 0 n, .int k] ∧ M = [some ⟨3, 1, 0, .kil [x]⟩, some ⟨3, 1, 0, .il (List.replicate k x ++ List.replicate (n - k) 0)⟩])
    (fun vs _ => n - (vs.getD 1 .any).toInt.toNat) ?_ ?_
  · refine ⟨1, Nat.le_refl _, hn.1, ?_, ?_⟩
    · show [V.sl 1 0 0 n, V.int (((([x].drop 0).take 1).take n).length : Nat)] = _
      rw [hl1]
    · exact congrArg (fun q => [some (⟨3, 1, 0, .kil [x]⟩ : Ob), some (⟨3, 1, 0, .il q⟩ : Ob)]) (rep_first x n hn.1)
  rintro vs M ⟨k, hk1, hk, rfl, rfl⟩
  conv => whnf
  refine br_dec (fun hlt => ?_) (fun hge => ?_)
  · have hkn : k < n := by omega
    have hyl : (((List.replicate k x ++ List.replicate (n - k) (0 : Int)).drop 0).take k).length = k := by
      rw [List.drop_zero, List.take_left' (by simp)]; simp
    have hyl2 : ((((List.replicate k x ++ List.replicate (n - k) (0 : Int)).drop 0).take k).take (n - k)).length = min k (n - k) := by rw [List.length_take, hyl, Nat.min_comm]
    conv => whnf
    refine AW_draw (X := ⟨Try.prog, tab, wrL, 48, nb, false⟩) tab_ok mixed (by kernel_rfl) ?_
    conv => whnf
    refine ⟨(show (0 : Int) ≤ (k : Int) by omega), ?_⟩
    conv => whnf
    refine ⟨(show (k : Int) ≤ (n : Int) by omega), ?_⟩
    conv => whnf
    refine ⟨(show (n : Int) ≤ (n : Int) by omega), ?_⟩
    conv => whnf
    refine ⟨(show (0 : Int) ≤ 0 by omega), ?_⟩
    conv => whnf
    refine ⟨(show (0 : Int) ≤ (k : Int) by omega), ?_⟩
    conv => whnf
    refine ⟨(show (k : Int) ≤ (n : Int) by omega), ?_⟩
    conv => whnf
    refine ⟨(show (0 : Int) < ((n - k : Nat) : Int) by omega), ?_⟩
    conv => whnf
    refine ⟨(show (0 : Int) < (((((List.replicate k x ++ List.replicate (n - k) (0 : Int)).drop 0).take k).length : Nat) : Int) by rw [hyl]; omega), ?_⟩
    conv => whnf
    refine ⟨inr (show -9223372036854775808 ≤ (k : Int) + ((((((List.replicate k x ++ List.replicate (n - k) (0 : Int)).drop 0).take k).take (n - k)).length : Nat) : Int) ∧ (k : Int) + ((((((List.replicate k x ++ List.replicate (n - k) (0 : Int)).drop 0).take k).take (n - k)).length : Nat) : Int) ≤ 9223372036854775807 by rw [hyl2]; omega), ?_⟩
    conv => whnf
    refine ⟨⟨k + min k (n - k), by omega, by omega, ?_, ?_⟩, ?_⟩
    · show [V.sl 1 0 0 n, V.int ((k : Int) + ((((((List.replicate k x ++ List.replicate (n - k) (0 : Int)).drop 0).take k).take (n - k)).length : Nat) : Int))] = _
      rw [hyl2]
      rfl
    · exact congrArg (fun q => [some (⟨3, 1, 0, .kil [x]⟩ : Ob), some (⟨3, 1, 0, .il q⟩ : Ob)]) (rep_step x n k hk1 hkn)
    · show n - ((k : Int) + ((((((List.replicate k x ++ List.replicate (n - k) (0 : Int)).drop 0).take k).take (n - k)).length : Nat) : Int)).toNat < n - ((k : Int)).toNat
      rw [hyl2]
      omega
  · conv => whnf
    refine ⟨_, rfl, rfl, ?_⟩
    rw [show n - k = 0 from by omega, show k = n from by omega, List.replicate_zero, List.append_nil]
end Go.Tri
