/-
  LAW: ShiftScaled.
-/
import Derived.Test.YtciefpkelgjboaaL2
namespace Go.Tri
open Go.Proofs

def OutM (L : List Int) (k : Nat) (o : V) (M : Mem) : Prop := (k = 0 ∧ o = .emp true ∧ M = []) ∨ (1 ≤ k ∧ ∃ ver, o = .sl 1 ver 0 k ∧ M = [none, some ⟨3, 1, ver, .il (L.take k)⟩])
set_option maxRecDepth 100000 in
theorem ShiftScaled_pure (l : List Int) (long : Int) (times : Int) (ht : 0 ≤ times ∧ times ≤ 255) :
    APure Try.prog 14 [.ints false l, .int long, .lit (.int .u8 times)] (fun R => R = .bool true) := by
  refine APure_of (X := cx 154) (cx_ok 154) rfl (rs := [(.tmp 6, 4)]) Try.func14 (by decide) rfl rfl rfl (by simp [cx]) (by simp [NoFr]) ?_
  intro hlen
  have fin := alive_pure
  have hfew := few_pure l []
  ((conv => whnf); repeat (refine stepK_in ?_; (repeat (first | refine seqQ_n ?_ | refine blockQ_n ?_ | refine awp_skip ?_ | refine awp_seq ?_ | refine awp_block ?_)); (conv => whnf)))
  refine APure.to hfew ?_
  by_cases h40 : l.length ≤ 40
  · rw [few40 h40]
    ((conv => whnf); repeat (refine stepK_in ?_; (repeat (first | refine seqQ_n ?_ | refine blockQ_n ?_ | refine awp_skip ?_ | refine awp_seq ?_ | refine awp_block ?_)); (conv => whnf)))
    refine APure.to (refDay_pure l long) ?_
    ((conv => whnf); repeat (refine stepK_in ?_; (repeat (first | refine seqQ_n ?_ | refine blockQ_n ?_ | refine awp_skip ?_ | refine awp_seq ?_ | refine awp_block ?_)); (conv => whnf)))
    refine br_ne (fun h => ?_) (fun h => ?_)
    · ((conv => whnf); repeat (refine stepK_in ?_; (repeat (first | refine seqQ_n ?_ | refine blockQ_n ?_ | refine awp_skip ?_ | refine awp_seq ?_ | refine awp_block ?_)); (conv => whnf)))
      refine APure.to fin ?_
      ((conv => whnf); repeat (refine stepK_in ?_; (repeat (first | refine seqQ_n ?_ | refine blockQ_n ?_ | refine awp_skip ?_ | refine awp_seq ?_ | refine awp_block ?_)); (conv => whnf)))
      exact ⟨trivial, rfl⟩
    obtain ⟨hn, hl1, hl2⟩ := dayE_inv h
    obtain ⟨n, rfl⟩ : ∃ n : Nat, long = n := ⟨long.toNat, by omega⟩
    obtain ⟨kk, hkk, hkb⟩ : ∃ kk : Nat, (1 : Int) + times.tmod 5 = kk ∧ 1 ≤ kk ∧ kk ≤ 5 := ⟨((1 : Int) + times.tmod 5).toNat, by
      rw [Int.tmod_eq_emod_of_nonneg ht.1]; omega⟩
    have n12 := hn.2.1
    have n11 := hn.1
    ((conv => whnf); repeat (refine stepK_in ?_; (repeat (first | refine seqQ_n ?_ | refine blockQ_n ?_ | refine awp_skip ?_ | refine awp_seq ?_ | refine awp_block ?_)); (conv => whnf)))
    refine ⟨by decide, ?_⟩
    ((conv => whnf); repeat (refine stepK_in ?_; (repeat (first | refine seqQ_n ?_ | refine blockQ_n ?_ | refine awp_skip ?_ | refine awp_seq ?_ | refine awp_block ?_)); (conv => whnf)))
    refine ⟨inr (by rw [Int.tmod_eq_emod_of_nonneg ht.1]; omega), ?_⟩
    ((conv => whnf); repeat (refine stepK_in ?_; (repeat (first | refine seqQ_n ?_ | refine blockQ_n ?_ | refine awp_skip ?_ | refine awp_seq ?_ | refine awp_block ?_)); (conv => whnf)))
    refine ⟨inr (by rw [Int.tmod_eq_emod_of_nonneg ht.1]; omega), ?_⟩
    rw [hkk]
    ((conv => whnf); repeat (refine stepK_in ?_; (repeat (first | refine seqQ_n ?_ | refine blockQ_n ?_ | refine awp_skip ?_ | refine awp_seq ?_ | refine awp_block ?_)); (conv => whnf)))
    refine AW_loopA (X := cx 154) (cx_ok 154) [0, 1, 7, 8, 9] (fun t => Nat.beq t 1) (fun vs M => ∃ (k : Nat) (o : V), k ≤ l.length ∧ (∀ i, i < k → l.getD i 0 * kk ≤ 50) ∧ OutM (mul l kk) k o M ∧ vs = [.ints false l, .int n, .int kk, o, .int k])
      (fun vs _ => l.length - (vs.getD 4 .any).toInt.toNat) (fun t ht => absurd ht (by simp)) ?_ ?_
    · exact same0 ⟨0, .emp true, Nat.zero_le _, fun i hi => absurd hi (by omega), .inl ⟨rfl, rfl, rfl⟩, rfl⟩
    rintro vs M ⟨k, o, hk, hsm, hO, rfl⟩
    ((conv => whnf); repeat (refine stepK_in ?_; (repeat (first | refine seqQ_n ?_ | refine blockQ_n ?_ | refine awp_skip ?_ | refine awp_seq ?_ | refine awp_block ?_)); (conv => whnf)))
    refine br_dec (fun hlt => ?_) (fun hge => ?_)
    · have hk' : k < l.length := by omega
      have hlk := hn.2.2 k hk'
      have hm0 : 0 ≤ l.getD k 0 * (kk : Int) ∧ l.getD k 0 * (kk : Int) ≤ 50 * 5 := ⟨Int.mul_nonneg hlk.1 (by omega), Int.mul_le_mul hlk.2 (by omega) (by omega) (by omega)⟩
      have hmc : (kk : Int) * l.getD (k : Int).toNat 0 = l.getD k 0 * kk := by rw [Int.toNat_natCast, Int.mul_comm]
      have hmt : (mul l kk).take (k + 1) = (mul l kk).take k ++ [l.getD k 0 * kk] := by rw [take_succ_getD _ _ (by rw [mul_len]; exact hk'), mul_get _ _ hk']
      have hml : ((mul l kk).take k).length = k := by rw [List.length_take, mul_len]; omega
      generalize hxv : l.getD k 0 * (kk : Int) = x at *
      ((conv => whnf); repeat (refine stepK_in ?_; (repeat (first | refine seqQ_n ?_ | refine blockQ_n ?_ | refine awp_skip ?_ | refine awp_seq ?_ | refine awp_block ?_)); (conv => whnf)))
      repeat ((first | refine ⟨by omega, ?_⟩ | refine ⟨inr (by omega), ?_⟩); ((conv => whnf); repeat (refine stepK_in ?_; (repeat (first | refine seqQ_n ?_ | refine blockQ_n ?_ | refine awp_skip ?_ | refine awp_seq ?_ | refine awp_block ?_)); (conv => whnf))))
      rw [hmc]
      refine br_dec (fun hb => ?_) (fun hb => ?_)
      · ((conv => whnf); repeat (refine stepK_in ?_; (repeat (first | refine seqQ_n ?_ | refine blockQ_n ?_ | refine awp_skip ?_ | refine awp_seq ?_ | refine awp_block ?_)); (conv => whnf)))
        refine APure.to fin ?_
        ((conv => whnf); repeat (refine stepK_in ?_; (repeat (first | refine seqQ_n ?_ | refine blockQ_n ?_ | refine awp_skip ?_ | refine awp_seq ?_ | refine awp_block ?_)); (conv => whnf)))
        exact ⟨trivial, rfl⟩
      have hb : ¬ x > 50 := hb
      have hsm' : ∀ i, i < k + 1 → l.getD i 0 * (kk : Int) ≤ 50 := fun i hi => by
        rcases (by omega : i < k ∨ i = k) with h1 | rfl
        · exact hsm i h1
        · omega
      rcases hO with ⟨rfl, rfl, rfl⟩ | ⟨hk1, ver, rfl, rfl⟩
      · ((conv => whnf); repeat (refine stepK_in ?_; (repeat (first | refine seqQ_n ?_ | refine blockQ_n ?_ | refine awp_skip ?_ | refine awp_seq ?_ | refine awp_block ?_)); (conv => whnf)))
        repeat ((first | refine ⟨by omega, ?_⟩ | refine ⟨inr (by omega), ?_⟩); ((conv => whnf); repeat (refine stepK_in ?_; (repeat (first | refine seqQ_n ?_ | refine blockQ_n ?_ | refine awp_skip ?_ | refine awp_seq ?_ | refine awp_block ?_)); (conv => whnf))))
        rw [hmc]
        ((conv => whnf); repeat (refine stepK_in ?_; (repeat (first | refine seqQ_n ?_ | refine blockQ_n ?_ | refine awp_skip ?_ | refine awp_seq ?_ | refine awp_block ?_)); (conv => whnf)))
        repeat ((first | refine ⟨by omega, ?_⟩ | refine ⟨inr (by omega), ?_⟩ | refine eqn_self ?_ | refine ⟨ms (by omega), ?_⟩ | refine ⟨ms (by simp only [Src.n]; omega), ?_⟩ | refine ⟨msk (by omega), ?_⟩ | refine ⟨ms1, ?_⟩); ((conv => whnf); repeat (refine stepK_in ?_; (repeat (first | refine seqQ_n ?_ | refine blockQ_n ?_ | refine awp_skip ?_ | refine awp_seq ?_ | refine awp_block ?_)); (conv => whnf))))
        refine ⟨by repeat (first | exact trivial | exact rfl | exact fun _ => trivial | exact fun _ _ => trivial | exact fun _ _ _ => trivial | exact fun _ _ _ _ => trivial | refine And.intro ?_ ?_), memA1 [none, some ⟨3, 1, 0, .il ((mul l kk).take 1)⟩] ⟨ObSub.ii (by rw [hmt]; rfl), trivial⟩ ⟨⟨1, _, by omega, hsm', .inr ⟨Nat.le_refl _, 0, rfl, rfl⟩, rfl⟩, ?_⟩⟩
        simp [V.toInt, sel, Env.get]; omega
      · ((conv => whnf); repeat (refine stepK_in ?_; (repeat (first | refine seqQ_n ?_ | refine blockQ_n ?_ | refine awp_skip ?_ | refine awp_seq ?_ | refine awp_block ?_)); (conv => whnf)))
        repeat ((first | refine ⟨by omega, ?_⟩ | refine ⟨inr (by omega), ?_⟩); ((conv => whnf); repeat (refine stepK_in ?_; (repeat (first | refine seqQ_n ?_ | refine blockQ_n ?_ | refine awp_skip ?_ | refine awp_seq ?_ | refine awp_block ?_)); (conv => whnf))))
        rw [hmc]
        ((conv => whnf); repeat (refine stepK_in ?_; (repeat (first | refine seqQ_n ?_ | refine blockQ_n ?_ | refine awp_skip ?_ | refine awp_seq ?_ | refine awp_block ?_)); (conv => whnf)))
        repeat ((first | refine ⟨by omega, ?_⟩ | refine ⟨inr (by omega), ?_⟩ | refine eqn_self ?_ | refine ⟨ms (by omega), ?_⟩ | refine ⟨ms (by simp only [Src.n]; omega), ?_⟩ | refine ⟨msk (by omega), ?_⟩ | refine ⟨ms1, ?_⟩); ((conv => whnf); repeat (refine stepK_in ?_; (repeat (first | refine seqQ_n ?_ | refine blockQ_n ?_ | refine awp_skip ?_ | refine awp_seq ?_ | refine awp_block ?_)); (conv => whnf))))
        refine ⟨by repeat (first | exact trivial | exact rfl | exact fun _ => trivial | exact fun _ _ => trivial | exact fun _ _ _ => trivial | exact fun _ _ _ _ => trivial | refine And.intro ?_ ?_), memA1 [none, some ⟨3, 1, ver + 1, .il ((mul l kk).take (k + 1))⟩] ⟨ObSub.ii (by rw [hmt, List.take_of_length_le (by omega)]; rfl), trivial⟩ ⟨⟨k + 1, _, by omega, hsm', .inr ⟨by omega, ver + 1, rfl, rfl⟩, rfl⟩, ?_⟩⟩
        simp [V.toInt, sel, Env.get]; omega
    · obtain rfl : k = l.length := by omega
      rcases hO with ⟨h0, _, _⟩ | ⟨hk1, ver, rfl, rfl⟩
      · omega
      rw [List.take_of_length_le (by rw [mul_len]; omega)]
      have hmn : Nds (mul l kk) := ⟨by rw [mul_len]; exact n11, by rw [mul_len]; exact n12, fun q hq => by
        rw [mul_len] at hq
        rw [mul_get _ _ hq]
        exact ⟨Int.mul_nonneg (hn.2.2 q hq).1 (by omega), hsm q hq⟩⟩
      have hd' : dayE (mul l kk) n = 0 := dayE_ok hmn hl1 (by rw [mul_len]; exact hl2)
      obtain ⟨a, b, hv, his, ha0, ha1, hb0, hb1⟩ := shOk h
      obtain ⟨a', b', hv', his', ha0', ha1', hb0', hb1'⟩ := shOk hd'
      rw [Int.toNat_natCast] at his his'
      have hsc := sh_scaled (k := kk) hn hmn (by omega) (by omega) his his'
      have hls := le_scaled (long := n) (k := kk) hn hmn (by omega) (by omega) (by omega)
      have c1 := Share_pure l n
      rw [hv] at c1
      have c2 : APure Try.prog 24 [.ints false (((mul l kk).drop 0).take l.length), .int n] (fun R => R = tup2 (ratV a' b') (.int 0)) := by
        have := Share_pure (mul l kk) n
        rw [hv'] at this
        rw [List.drop_zero, List.take_of_length_le (by rw [mul_len]; omega)]
        exact this
      have c3 := Least_pure l n
      rw [leV_ok h] at c3
      have c4 : APure Try.prog 22 [.ints false (((mul l kk).drop 0).take l.length), .int n] (fun R => R = tup2 (.int (leL (mul l kk) n)) (.int 0)) := by
        have := Least_pure (mul l kk) n
        rw [leV_ok hd'] at this
        rw [List.drop_zero, List.take_of_length_le (by rw [mul_len]; omega)]
        exact this
      have hle := le600 h
      have hle' := le600 hd'
      generalize leL l n = n1 at *
      generalize leL (mul l kk) n = m1 at *
      have p1 : 0 ≤ (kk : Int) * a ∧ (kk : Int) * a ≤ 5 * 20000 := ⟨Int.mul_nonneg (by omega) ha0, Int.mul_le_mul (by omega) ha1 ha0 (by omega)⟩
      have p2 : 0 ≤ (kk : Int) * a * b' ∧ (kk : Int) * a * b' ≤ 5 * 20000 * 12 := ⟨Int.mul_nonneg p1.1 (by omega), Int.mul_le_mul p1.2 hb1' (by omega) (by omega)⟩
      have p3 : 0 ≤ (kk : Int) * n1 ∧ (kk : Int) * n1 ≤ 5 * 600 := ⟨Int.mul_nonneg (by omega) (by omega), Int.mul_le_mul (by omega) hle (by omega) (by omega)⟩
      have p4 : (kk : Int) * ((n1 : Int) - 1) = kk * n1 - kk := by rw [Int.mul_sub, Int.mul_one]
      ((conv => whnf); repeat (refine stepK_in ?_; (repeat (first | refine seqQ_n ?_ | refine blockQ_n ?_ | refine awp_skip ?_ | refine awp_seq ?_ | refine awp_block ?_)); (conv => whnf)))
      refine APure.to c1 ?_
      ((conv => whnf); repeat (refine stepK_in ?_; (repeat (first | refine seqQ_n ?_ | refine blockQ_n ?_ | refine awp_skip ?_ | refine awp_seq ?_ | refine awp_block ?_)); (conv => whnf)))
      refine eqn_self ?_
      ((conv => whnf); repeat (refine stepK_in ?_; (repeat (first | refine seqQ_n ?_ | refine blockQ_n ?_ | refine awp_skip ?_ | refine awp_seq ?_ | refine awp_block ?_)); (conv => whnf)))
      refine APure.to c2 ?_
      ((conv => whnf); repeat (refine stepK_in ?_; (repeat (first | refine seqQ_n ?_ | refine blockQ_n ?_ | refine awp_skip ?_ | refine awp_seq ?_ | refine awp_block ?_)); (conv => whnf)))
      refine APure.to c3 ?_
      ((conv => whnf); repeat (refine stepK_in ?_; (repeat (first | refine seqQ_n ?_ | refine blockQ_n ?_ | refine awp_skip ?_ | refine awp_seq ?_ | refine awp_block ?_)); (conv => whnf)))
      refine eqn_self ?_
      ((conv => whnf); repeat (refine stepK_in ?_; (repeat (first | refine seqQ_n ?_ | refine blockQ_n ?_ | refine awp_skip ?_ | refine awp_seq ?_ | refine awp_block ?_)); (conv => whnf)))
      refine APure.to c4 ?_
      ((conv => whnf); repeat (refine stepK_in ?_; (repeat (first | refine seqQ_n ?_ | refine blockQ_n ?_ | refine awp_skip ?_ | refine awp_seq ?_ | refine awp_block ?_)); (conv => whnf)))
      refine br_dec (fun h => absurd (show b < 1 from h) (by omega)) (fun _ => ?_)
      ((conv => whnf); repeat (refine stepK_in ?_; (repeat (first | refine seqQ_n ?_ | refine blockQ_n ?_ | refine awp_skip ?_ | refine awp_seq ?_ | refine awp_block ?_)); (conv => whnf)))
      refine br_dec (fun h => absurd (show b' < 1 from h) (by omega)) (fun _ => ?_)
      ((conv => whnf); repeat (refine stepK_in ?_; (repeat (first | refine seqQ_n ?_ | refine blockQ_n ?_ | refine awp_skip ?_ | refine awp_seq ?_ | refine awp_block ?_)); (conv => whnf)))
      refine br_dec (fun h => absurd (show b > 1048576 from h) (by omega)) (fun _ => ?_)
      ((conv => whnf); repeat (refine stepK_in ?_; (repeat (first | refine seqQ_n ?_ | refine blockQ_n ?_ | refine awp_skip ?_ | refine awp_seq ?_ | refine awp_block ?_)); (conv => whnf)))
      refine br_dec (fun h => absurd (show b' > 1048576 from h) (by omega)) (fun _ => ?_)
      ((conv => whnf); repeat (refine stepK_in ?_; (repeat (first | refine seqQ_n ?_ | refine blockQ_n ?_ | refine awp_skip ?_ | refine awp_seq ?_ | refine awp_block ?_)); (conv => whnf)))
      refine br_dec (fun h => absurd (show a > 1073741824 from h) (by omega)) (fun _ => ?_)
      ((conv => whnf); repeat (refine stepK_in ?_; (repeat (first | refine seqQ_n ?_ | refine blockQ_n ?_ | refine awp_skip ?_ | refine awp_seq ?_ | refine awp_block ?_)); (conv => whnf)))
      refine br_dec (fun h => absurd (show a' > 1073741824 from h) (by omega)) (fun _ => ?_)
      ((conv => whnf); repeat (refine stepK_in ?_; (repeat (first | refine seqQ_n ?_ | refine blockQ_n ?_ | refine awp_skip ?_ | refine awp_seq ?_ | refine awp_block ?_)); (conv => whnf)))
      refine ⟨inr (show -9223372036854775808 ≤ (kk : Int) * a ∧ (kk : Int) * a ≤ 9223372036854775807 by omega), ?_⟩
      ((conv => whnf); repeat (refine stepK_in ?_; (repeat (first | refine seqQ_n ?_ | refine blockQ_n ?_ | refine awp_skip ?_ | refine awp_seq ?_ | refine awp_block ?_)); (conv => whnf)))
      refine ⟨inr (show -9223372036854775808 ≤ (kk : Int) * a * b' ∧ (kk : Int) * a * b' ≤ 9223372036854775807 by omega), ?_⟩
      ((conv => whnf); repeat (refine stepK_in ?_; (repeat (first | refine seqQ_n ?_ | refine blockQ_n ?_ | refine awp_skip ?_ | refine awp_seq ?_ | refine awp_block ?_)); (conv => whnf)))
      refine ⟨inr (show -9223372036854775808 ≤ a' * b ∧ a' * b ≤ 9223372036854775807 by omega), ?_⟩
      ((conv => whnf); repeat (refine stepK_in ?_; (repeat (first | refine seqQ_n ?_ | refine blockQ_n ?_ | refine awp_skip ?_ | refine awp_seq ?_ | refine awp_block ?_)); (conv => whnf)))
      refine br_eq (fun _ => ?_) (fun h => absurd hsc h)
      ((conv => whnf); repeat (refine stepK_in ?_; (repeat (first | refine seqQ_n ?_ | refine blockQ_n ?_ | refine awp_skip ?_ | refine awp_seq ?_ | refine awp_block ?_)); (conv => whnf)))
      refine ⟨inr (show -9223372036854775808 ≤ (kk : Int) * n1 ∧ (kk : Int) * n1 ≤ 9223372036854775807 by omega), ?_⟩
      ((conv => whnf); repeat (refine stepK_in ?_; (repeat (first | refine seqQ_n ?_ | refine blockQ_n ?_ | refine awp_skip ?_ | refine awp_seq ?_ | refine awp_block ?_)); (conv => whnf)))
      refine br_dec (fun _ => ?_) (fun h => absurd hls.1 h)
      ((conv => whnf); repeat (refine stepK_in ?_; (repeat (first | refine seqQ_n ?_ | refine blockQ_n ?_ | refine awp_skip ?_ | refine awp_seq ?_ | refine awp_block ?_)); (conv => whnf)))
      refine ⟨inr (show -9223372036854775808 ≤ (n1 : Int) - 1 ∧ (n1 : Int) - 1 ≤ 9223372036854775807 by omega), ?_⟩
      ((conv => whnf); repeat (refine stepK_in ?_; (repeat (first | refine seqQ_n ?_ | refine blockQ_n ?_ | refine awp_skip ?_ | refine awp_seq ?_ | refine awp_block ?_)); (conv => whnf)))
      refine ⟨inr (show -9223372036854775808 ≤ (kk : Int) * ((n1 : Int) - 1) ∧ (kk : Int) * ((n1 : Int) - 1) ≤ 9223372036854775807 by omega), ?_⟩
      ((conv => whnf); repeat (refine stepK_in ?_; (repeat (first | refine seqQ_n ?_ | refine blockQ_n ?_ | refine awp_skip ?_ | refine awp_seq ?_ | refine awp_block ?_)); (conv => whnf)))
      refine br_dec (fun _ => ?_) (fun h => absurd (show (m1 : Int) > kk * ((n1 : Int) - 1) from hls.2) h)
      ((conv => whnf); repeat (refine stepK_in ?_; (repeat (first | refine seqQ_n ?_ | refine blockQ_n ?_ | refine awp_skip ?_ | refine awp_seq ?_ | refine awp_block ?_)); (conv => whnf)))
      refine APure.to fin ?_
      ((conv => whnf); repeat (refine stepK_in ?_; (repeat (first | refine seqQ_n ?_ | refine blockQ_n ?_ | refine awp_skip ?_ | refine awp_seq ?_ | refine awp_block ?_)); (conv => whnf)))
      exact ⟨trivial, rfl⟩
  · rw [few41 h40]
    ((conv => whnf); repeat (refine stepK_in ?_; (repeat (first | refine seqQ_n ?_ | refine blockQ_n ?_ | refine awp_skip ?_ | refine awp_seq ?_ | refine awp_block ?_)); (conv => whnf)))
    refine APure.to fin ?_
    ((conv => whnf); repeat (refine stepK_in ?_; (repeat (first | refine seqQ_n ?_ | refine blockQ_n ?_ | refine awp_skip ?_ | refine awp_seq ?_ | refine awp_block ?_)); (conv => whnf)))
    exact ⟨trivial, rfl⟩
end Go.Tri
