/-
  CONTRACTS: slices.Repeat of one number; the proof of a trial; Proof of the program.
-/
import Derived.Test.YthocieklelgmbaaM7
namespace Go.Tri
open Go.Proofs

theorem wrap_u64 {x : Int} (h : 0 ≤ x ∧ x < 18446744073709551616) : IntKind.u64.wrap x = x := by
  unfold IntKind.wrap
  simp [IntKind.signed, IntKind.bits]
  omega
theorem and_mask {n : Nat} (hn : n < 4294967296) : bitI .and .u64 n 4294967295 = n := by
  simp only [bitI]
  have : (BitVec.ofInt IntKind.u64.bits (n : Int) &&& BitVec.ofInt IntKind.u64.bits 4294967295).toNat = n := by
    rw [BitVec.toNat_and]
    show (BitVec.ofInt 64 (n : Int)).toNat &&& (BitVec.ofInt 64 4294967295).toNat = n
    rw [show (BitVec.ofInt 64 4294967295).toNat = 2 ^ 32 - 1 from by decide, Nat.and_two_pow_sub_one_eq_mod]
    simp
    omega
  rw [this]
  exact wrap_u64 (by omega)
theorem shr32 {n : Nat} (hn : n < 4294967296) : (n : Int).fdiv (2 ^ (min (32 : Int).toNat IntKind.u64.bits)) = 0 := by
  show (n : Int).fdiv 4294967296 = 0
  rw [Int.fdiv_eq_ediv_of_nonneg _ (by omega)]
  omega

theorem Mul64_pure (n : Nat) (hn : n < 4294967296) : APure Try.prog 93 [.lit (.int .u64 1), .lit (.int .u64 n)] (fun R => R = tup2 (.lit (.int .u64 0)) (.lit (.int .u64 n))) := by
  refine APure_of (X := cx 51) (cx_ok 51) rfl (rs := [(.tmp 4, 103), (.tmp 5, 103)]) Try.func93 (by decide) rfl rfl rfl (by simp [cx]) (by simp [NoFr]) ?_
  intro _
  have b1 : bitI .and .u64 1 4294967295 = 1 := by decide
  have b2 := and_mask hn
  have b3 := shr32 hn
  have s1 : (1 : Int).fdiv (2 ^ (min (32 : Int).toNat IntKind.u64.bits)) = 0 := by decide
  have z0 : IntKind.u64.wrap 0 = 0 := by decide
  have wn : IntKind.u64.wrap (1 * (n : Int)) = n := by rw [Int.one_mul]; exact wrap_u64 (by omega)
  have w0 : IntKind.u64.wrap (0 * (n : Int)) = 0 := by rw [Int.zero_mul]; exact z0
  have f0 : (0 : Int).fdiv (2 ^ (min (32 : Int).toNat IntKind.u64.bits)) = 0 := by decide
  have b0 : bitI .and .u64 0 4294967295 = 0 := by decide
  ((conv => whnf); repeat (refine stepK_in ?_; (repeat (first | refine seqQ_n ?_ | refine blockQ_n ?_ | refine awp_skip ?_ | refine awp_seq ?_ | refine awp_block ?_)); (conv => whnf)))
  rw [b1, s1]
  refine ⟨by omega, ?_⟩
  ((conv => whnf); repeat (refine stepK_in ?_; (repeat (first | refine seqQ_n ?_ | refine blockQ_n ?_ | refine awp_skip ?_ | refine awp_seq ?_ | refine awp_block ?_)); (conv => whnf)))
  rw [b2, b3]
  refine ⟨by omega, ?_⟩
  ((conv => whnf); repeat (refine stepK_in ?_; (repeat (first | refine seqQ_n ?_ | refine blockQ_n ?_ | refine awp_skip ?_ | refine awp_seq ?_ | refine awp_block ?_)); (conv => whnf)))
  rw [wn, b3]
  refine ⟨by omega, ?_⟩
  ((conv => whnf); repeat (refine stepK_in ?_; (repeat (first | refine seqQ_n ?_ | refine blockQ_n ?_ | refine awp_skip ?_ | refine awp_seq ?_ | refine awp_block ?_)); (conv => whnf)))
  rw [w0, show IntKind.u64.wrap (0 + 0) = 0 from z0, b0, f0]
  refine ⟨by omega, ?_⟩
  ((conv => whnf); repeat (refine stepK_in ?_; (repeat (first | refine seqQ_n ?_ | refine blockQ_n ?_ | refine awp_skip ?_ | refine awp_seq ?_ | refine awp_block ?_)); (conv => whnf)))
  rw [show IntKind.u64.wrap (1 * 0) = 0 from z0, show IntKind.u64.wrap (0 + 0) = 0 from z0, f0, show IntKind.u64.wrap (0 * 0) = 0 from z0, show IntKind.u64.wrap (0 + 0) = 0 from z0]
  refine ⟨by omega, ?_⟩
  ((conv => whnf); repeat (refine stepK_in ?_; (repeat (first | refine seqQ_n ?_ | refine blockQ_n ?_ | refine awp_skip ?_ | refine awp_seq ?_ | refine awp_block ?_)); (conv => whnf)))
  refine ⟨trivial, trivial, Q2 rfl ?_⟩
  show V.lit (.int .u64 (IntKind.u64.wrap (1 * (n : Int)))) = _
  rw [wn]
theorem Mul_pure (n : Nat) (hn : n < 4294967296) : APure Try.prog 79 [.lit (.int .u64 1), .lit (.int .u64 n)] (fun R => R = tup2 (.lit (.int .u64 0)) (.lit (.int .u64 n))) := by
  refine APure_of (X := cx 30) (cx_ok 30) rfl (rs := [(.tmp 4, 86), (.tmp 5, 86)]) Try.func79 (by decide) rfl rfl rfl (by simp [cx]) (by simp [NoFr]) ?_
  intro _
  ((conv => whnf); repeat (refine stepK_in ?_; (repeat (first | refine seqQ_n ?_ | refine blockQ_n ?_ | refine awp_skip ?_ | refine awp_seq ?_ | refine awp_block ?_)); (conv => whnf)))
  refine APure.to (Mul64_pure n hn) ?_
  ((conv => whnf); repeat (refine stepK_in ?_; (repeat (first | refine seqQ_n ?_ | refine blockQ_n ?_ | refine awp_skip ?_ | refine awp_seq ?_ | refine awp_block ?_)); (conv => whnf)))
  exact ⟨trivial, trivial, rfl⟩

theorem rep_first (x : Int) (n : Nat) (hn : 1 ≤ n) : (List.replicate n (0 : Int)).take 0 ++ (([x].drop 0).take 1).take n ++ (List.replicate n (0 : Int)).drop (0 + ((([x].drop 0).take 1).take n).length) = List.replicate 1 x ++ List.replicate (n - 1) 0 := by
  obtain ⟨m, rfl⟩ : ∃ m, n = m + 1 := ⟨n - 1, by omega⟩
  simp
theorem rep_step (x : Int) (n k : Nat) (hk : 1 ≤ k) (hkn : k < n) : (List.replicate k x ++ List.replicate (n - k) (0 : Int)).take (0 + k) ++ (((List.replicate k x ++ List.replicate (n - k) (0 : Int)).drop 0).take k).take (n - k) ++
    (List.replicate k x ++ List.replicate (n - k) (0 : Int)).drop (0 + k + ((((List.replicate k x ++ List.replicate (n - k) (0 : Int)).drop 0).take k).take (n - k)).length) = List.replicate (k + min k (n - k)) x ++ List.replicate (n - (k + min k (n - k))) 0 := by
  have e1 : ((List.replicate k x ++ List.replicate (n - k) (0 : Int)).drop 0).take k = List.replicate k x := by
    rw [List.drop_zero, List.take_left' (by simp)]
  have e2 : (List.replicate k x ++ List.replicate (n - k) (0 : Int)).take (0 + k) = List.replicate k x := by
    rw [Nat.zero_add, List.take_left' (by simp)]
  rw [e1, e2, List.take_replicate, List.length_replicate, Nat.zero_add, List.drop_append, List.drop_replicate, List.length_replicate, List.drop_replicate]
  rw [show k - (k + min (n - k) k) = 0 from by omega, show k + min (n - k) k - k = min (n - k) k from by omega, List.replicate_zero, List.nil_append, List.replicate_append_replicate, Nat.min_comm (n - k) k]
  congr 2
  omega
set_option maxRecDepth 100000 in
/-- Repeat of one number, of a list that lies in memory alone. -/
theorem Repeat_cm (o0 o1 o2 : Option Ob) (x : Int) (n : Nat) (hn : 1 ≤ n ∧ n ≤ 100000) : ACM Try.prog 71 [.sl 3 0 0 1, .int n] [o0, o1, o2, some ⟨3, 1, 0, .kil [x]⟩] (fun R M' => R = .sl 4 0 0 n ∧ M' = [o0, o1, o2, some ⟨3, 1, 0, .kil [x]⟩, some ⟨3, 1, 0, .il (List.replicate n x)⟩]) := by
  refine ACM_of (T := tab) (wr := wrP) tab_ok Try.func71 (by decide) rfl (Nat.le_of_ble_eq_true rfl) (fun nb => ?_)
  have u1 : IntKind.u64.wrap 1 = 1 := by decide
  have un : IntKind.u64.wrap (n : Int) = n := wrap_u64 (by omega)
  ((conv => whnf); repeat (refine stepK_in ?_; (repeat (first | refine seqQ_n ?_ | refine blockQ_n ?_ | refine awp_skip ?_ | refine awp_seq ?_ | refine awp_block ?_)); (conv => whnf)))
  have hm : APure Try.prog 79 [.lit (.int .u64 (IntKind.u64.wrap ((1 : Nat) : Int))), .lit (.int .u64 (IntKind.u64.wrap n))] (fun R => R = tup2 (.lit (.int .u64 0)) (.lit (.int .u64 n))) := by
    rw [un, show IntKind.u64.wrap ((1 : Nat) : Int) = 1 from u1]
    exact Mul_pure n (by omega)
  refine APure.to hm ?_
  ((conv => whnf); repeat (refine stepK_in ?_; (repeat (first | refine seqQ_n ?_ | refine blockQ_n ?_ | refine awp_skip ?_ | refine awp_seq ?_ | refine awp_block ?_)); (conv => whnf)))
  refine br_dec (fun h => absurd h (by omega)) (fun _ => ?_)
  ((conv => whnf); repeat (refine stepK_in ?_; (repeat (first | refine seqQ_n ?_ | refine blockQ_n ?_ | refine awp_skip ?_ | refine awp_seq ?_ | refine awp_block ?_)); (conv => whnf)))
  refine ⟨inr (by omega), ?_⟩
  ((conv => whnf); repeat (refine stepK_in ?_; (repeat (first | refine seqQ_n ?_ | refine blockQ_n ?_ | refine awp_skip ?_ | refine awp_seq ?_ | refine awp_block ?_)); (conv => whnf)))
  refine ⟨(show (0 : Int) ≤ (n : Int) by omega), ?_⟩
  ((conv => whnf); repeat (refine stepK_in ?_; (repeat (first | refine seqQ_n ?_ | refine blockQ_n ?_ | refine awp_skip ?_ | refine awp_seq ?_ | refine awp_block ?_)); (conv => whnf)))
  refine ⟨(show (n : Int) ≤ (n : Int) by omega), ?_⟩
  ((conv => whnf); repeat (refine stepK_in ?_; (repeat (first | refine seqQ_n ?_ | refine blockQ_n ?_ | refine awp_skip ?_ | refine awp_seq ?_ | refine awp_block ?_)); (conv => whnf)))
  refine ⟨(show (8 : Int) * (n : Int) ≤ 140737488355328 by omega), ?_⟩
  ((conv => whnf); repeat (refine stepK_in ?_; (repeat (first | refine seqQ_n ?_ | refine blockQ_n ?_ | refine awp_skip ?_ | refine awp_seq ?_ | refine awp_block ?_)); (conv => whnf)))
  refine ⟨(show (0 : Int) < (n : Int) by omega), ?_⟩
  ((conv => whnf); repeat (refine stepK_in ?_; (repeat (first | refine seqQ_n ?_ | refine blockQ_n ?_ | refine awp_skip ?_ | refine awp_seq ?_ | refine awp_block ?_)); (conv => whnf)))
  have hl1 : ((([x].drop 0).take 1).take n).length = 1 := by
    obtain ⟨m, rfl⟩ : ∃ m, n = m + 1 := ⟨n - 1, by omega⟩
    simp
  refine AW_loop (X := ⟨Try.prog, tab, wrP, 48, nb, false⟩) tab_ok [7, 8] (fun vs M => ∃ k : Nat, 1 ≤ k ∧ k ≤ n ∧ vs = [.sl 4 0 0 n, .int k] ∧ M = [o0, o1, o2, some ⟨3, 1, 0, .kil [x]⟩, some ⟨3, 1, 0, .il (List.replicate k x ++ List.replicate (n - k) 0)⟩])
    (fun vs _ => n - (vs.getD 1 .any).toInt.toNat) ?_ ?_
  · refine ⟨1, Nat.le_refl _, hn.1, ?_, ?_⟩
    · show [V.sl 4 0 0 n, V.int (((([x].drop 0).take 1).take n).length : Nat)] = _
      rw [hl1]
    · exact congrArg (fun q => [o0, o1, o2, some (⟨3, 1, 0, .kil [x]⟩ : Ob), some (⟨3, 1, 0, .il q⟩ : Ob)]) (rep_first x n hn.1)
  rintro vs M ⟨k, hk1, hk, rfl, rfl⟩
  ((conv => whnf); repeat (refine stepK_in ?_; (repeat (first | refine seqQ_n ?_ | refine blockQ_n ?_ | refine awp_skip ?_ | refine awp_seq ?_ | refine awp_block ?_)); (conv => whnf)))
  refine br_dec (fun hlt => ?_) (fun hge => ?_)
  · have hkn : k < n := by omega
    have hyl : (((List.replicate k x ++ List.replicate (n - k) (0 : Int)).drop 0).take k).length = k := by
      rw [List.drop_zero, List.take_left' (by simp)]; simp
    have hyl2 : ((((List.replicate k x ++ List.replicate (n - k) (0 : Int)).drop 0).take k).take (n - k)).length = min k (n - k) := by rw [List.length_take, hyl, Nat.min_comm]
    ((conv => whnf); repeat (refine stepK_in ?_; (repeat (first | refine seqQ_n ?_ | refine blockQ_n ?_ | refine awp_skip ?_ | refine awp_seq ?_ | refine awp_block ?_)); (conv => whnf)))
    refine AW_draw (X := ⟨Try.prog, tab, wrP, 48, nb, false⟩) tab_ok mixed (by kernel_rfl) ?_
    ((conv => whnf); repeat (refine stepK_in ?_; (repeat (first | refine seqQ_n ?_ | refine blockQ_n ?_ | refine awp_skip ?_ | refine awp_seq ?_ | refine awp_block ?_)); (conv => whnf)))
    refine ⟨(show (0 : Int) ≤ (k : Int) by omega), ?_⟩
    ((conv => whnf); repeat (refine stepK_in ?_; (repeat (first | refine seqQ_n ?_ | refine blockQ_n ?_ | refine awp_skip ?_ | refine awp_seq ?_ | refine awp_block ?_)); (conv => whnf)))
    refine ⟨(show (k : Int) ≤ (n : Int) by omega), ?_⟩
    ((conv => whnf); repeat (refine stepK_in ?_; (repeat (first | refine seqQ_n ?_ | refine blockQ_n ?_ | refine awp_skip ?_ | refine awp_seq ?_ | refine awp_block ?_)); (conv => whnf)))
    refine ⟨(show (n : Int) ≤ (n : Int) by omega), ?_⟩
    ((conv => whnf); repeat (refine stepK_in ?_; (repeat (first | refine seqQ_n ?_ | refine blockQ_n ?_ | refine awp_skip ?_ | refine awp_seq ?_ | refine awp_block ?_)); (conv => whnf)))
    refine ⟨(show (0 : Int) ≤ 0 by omega), ?_⟩
    ((conv => whnf); repeat (refine stepK_in ?_; (repeat (first | refine seqQ_n ?_ | refine blockQ_n ?_ | refine awp_skip ?_ | refine awp_seq ?_ | refine awp_block ?_)); (conv => whnf)))
    refine ⟨(show (0 : Int) ≤ (k : Int) by omega), ?_⟩
    ((conv => whnf); repeat (refine stepK_in ?_; (repeat (first | refine seqQ_n ?_ | refine blockQ_n ?_ | refine awp_skip ?_ | refine awp_seq ?_ | refine awp_block ?_)); (conv => whnf)))
    refine ⟨(show (k : Int) ≤ (n : Int) by omega), ?_⟩
    ((conv => whnf); repeat (refine stepK_in ?_; (repeat (first | refine seqQ_n ?_ | refine blockQ_n ?_ | refine awp_skip ?_ | refine awp_seq ?_ | refine awp_block ?_)); (conv => whnf)))
    refine ⟨(show (0 : Int) < ((n - k : Nat) : Int) by omega), ?_⟩
    ((conv => whnf); repeat (refine stepK_in ?_; (repeat (first | refine seqQ_n ?_ | refine blockQ_n ?_ | refine awp_skip ?_ | refine awp_seq ?_ | refine awp_block ?_)); (conv => whnf)))
    refine ⟨inr (show -9223372036854775808 ≤ (k : Int) + ((((((List.replicate k x ++ List.replicate (n - k) (0 : Int)).drop 0).take k).take (n - k)).length : Nat) : Int) ∧ (k : Int) + ((((((List.replicate k x ++ List.replicate (n - k) (0 : Int)).drop 0).take k).take (n - k)).length : Nat) : Int) ≤ 9223372036854775807 by rw [hyl2]; omega), ?_⟩
    ((conv => whnf); repeat (refine stepK_in ?_; (repeat (first | refine seqQ_n ?_ | refine blockQ_n ?_ | refine awp_skip ?_ | refine awp_seq ?_ | refine awp_block ?_)); (conv => whnf)))
    refine ⟨⟨k + min k (n - k), by omega, by omega, ?_, ?_⟩, ?_⟩
    · show [V.sl 4 0 0 n, V.int ((k : Int) + ((((((List.replicate k x ++ List.replicate (n - k) (0 : Int)).drop 0).take k).take (n - k)).length : Nat) : Int))] = _
      rw [hyl2]
      rfl
    · exact congrArg (fun q => [o0, o1, o2, some (⟨3, 1, 0, .kil [x]⟩ : Ob), some (⟨3, 1, 0, .il q⟩ : Ob)]) (rep_step x n k hk1 hkn)
    · show n - ((k : Int) + ((((((List.replicate k x ++ List.replicate (n - k) (0 : Int)).drop 0).take k).take (n - k)).length : Nat) : Int)).toNat < n - ((k : Int)).toNat
      rw [hyl2]
      omega
  · ((conv => whnf); repeat (refine stepK_in ?_; (repeat (first | refine seqQ_n ?_ | refine blockQ_n ?_ | refine awp_skip ?_ | refine awp_seq ?_ | refine awp_block ?_)); (conv => whnf)))
    refine ⟨_, rfl, rfl, ?_⟩
    rw [show n - k = 0 from by omega, show k = n from by omega, List.replicate_zero, List.append_nil]


@[reducible] def obs4 (l : List Int) (long T : Int) (m : List Int) (r : Mem) : Mem := some ⟨50, 2, 0, .one [.ints false l, .int long]⟩ :: some ⟨58, 3, 0, .one [.ints false l, .int long, .int T]⟩ :: some ⟨80, 156, 0, .cv 1 fun _ q => .int (rdF l long T q)⟩ :: some ⟨3, 1, 0, .kil [-1]⟩ :: some ⟨3, 1, 0, .il m⟩ :: r
def OutP (l : List Int) (long T : Int) (m Y : List Int) (o : V) (M : Mem) : Prop := (Y = [] ∧ o = .emp true ∧ M = obs4 l long T m []) ∨ (Y ≠ [] ∧ ∃ ver, o = .sl 6 ver 0 Y.length ∧ M = obs4 l long T m [none, some ⟨3, 1, ver, .il Y⟩])
set_option maxRecDepth 100000 in
theorem proof_cm (l : List Int) (long : Nat) (T : Int) (h1 : 1 ≤ l.length) (h2 : l.length ≤ 12) (hl1 : 1 ≤ long) (hl2 : long ≤ l.length) (hl : bet 0 1000 l l.length) (hT : 0 ≤ T ∧ T ≤ 1000000) (hbad : okT l long T = false) :
    ACM Try.prog 53 [trialV l long T] [some ⟨50, 2, 0, .one [.ints false l, .int long]⟩] (fun R M' => ∃ h0 a b ver m, IsRing l long T h0 a b ∧ R = .sl 6 ver (yL l long T h0 a).length ((yL l long T h0 b).length - (yL l long T h0 a).length) ∧ M' = obs4 l long T m [none, some ⟨3, 1, ver, .il (yL l long T h0 b)⟩]) := by
  have c1 := rounds_pure l long T h1 h2 hl1 hl2 hl hT
  obtain ⟨q, hq, hqn⟩ : ∃ q, q < l.length ∧ rdT l long T l.length q ≠ rdT l long T (l.length - 1) q := by
    have hnq : ¬ ∀ q, q < 12 → rdT l long T l.length q = rdT l long T (l.length - 1) q := fun h => by
      have := (okT_iff (l := l) h1).2 h
      rw [hbad] at this
      cases this
    obtain ⟨q, hq⟩ := Classical.not_forall.1 hnq
    obtain ⟨hq12, hne⟩ := Classical.not_imp.1 hq
    refine ⟨q, ?_, hne⟩
    rcases Nat.lt_or_ge q l.length with h | h
    · exact h
    · rw [rdT_out h, rdT_out h] at hne; exact absurd rfl hne
  have hg : ∀ (k h o : Nat), k ≤ l.length → h < 12 → o = 12 * k + h → rdF l long T o = rdT l long T k h := fun k h o hk hh ho => by
    subst ho
    unfold rdF
    rw [if_pos (by omega)]
    congr 1 <;> omega
  refine ACM_of (T := tab) (wr := wrP) tab_ok Try.func53 (by decide) rfl (Nat.le_of_ble_eq_true rfl) (fun nb => ?_)
  ((conv => whnf); repeat (refine stepK_in ?_; (repeat (first | refine seqQ_n ?_ | refine blockQ_n ?_ | refine awp_skip ?_ | refine awp_seq ?_ | refine awp_block ?_)); (conv => whnf)))
  refine APure.to (APure.arg1 (subTr rfl rfl rfl) c1) ?_
  ((conv => whnf); repeat (refine stepK_in ?_; (repeat (first | refine seqQ_n ?_ | refine blockQ_n ?_ | refine awp_skip ?_ | refine awp_seq ?_ | refine awp_block ?_)); (conv => whnf)))
  refine AW_loopA (X := ⟨Try.prog, tab, wrP, 88, nb, false⟩) tab_ok [1, 3, 4, 5] (fun t => Nat.blt t 3) (fun vs M => ∃ h : Nat, h ≤ q ∧ (∀ j, j < h → rdT l long T l.length j = rdT l long T (l.length - 1) j) ∧ vs = [.ptr 1 0 0 0, .ptr 2 0 0 0, .int l.length, .int h] ∧
      M = [some ⟨50, 2, 0, .one [.ints false l, .int long]⟩, some ⟨58, 3, 0, .one [.ints false l, .int long, .int T]⟩, some ⟨80, 156, 0, .cv 1 fun _ q => .int (rdF l long T q)⟩])
    (fun vs _ => q - (vs.getD 3 .any).toInt.toNat) (fun t ht => by simpa using ht) ?_ ?_
  · exact same0 ⟨0, Nat.zero_le _, fun j hj => absurd hj (by omega), rfl, rfl⟩
  rintro vs M ⟨h, hhq, hh, rfl, rfl⟩
  ((conv => whnf); repeat (refine stepK_in ?_; (repeat (first | refine seqQ_n ?_ | refine blockQ_n ?_ | refine awp_skip ?_ | refine awp_seq ?_ | refine awp_block ?_)); (conv => whnf)))
  refine AW_draw (X := ⟨Try.prog, tab, wrP, 88, nb, false⟩) tab_ok mixed (by kernel_rfl) ?_
  ((conv => whnf); repeat (refine stepK_in ?_; (repeat (first | refine seqQ_n ?_ | refine blockQ_n ?_ | refine awp_skip ?_ | refine awp_seq ?_ | refine awp_block ?_)); (conv => whnf)))
  refine ⟨by omega, ?_⟩
  refine ⟨(show (l.length : Int) < 13 by omega), ?_⟩
  ((conv => whnf); repeat (refine stepK_in ?_; (repeat (first | refine seqQ_n ?_ | refine blockQ_n ?_ | refine awp_skip ?_ | refine awp_seq ?_ | refine awp_block ?_)); (conv => whnf)))
  refine ⟨by omega, ?_⟩
  refine ⟨(show (h : Int) < 12 by omega), ?_⟩
  ((conv => whnf); repeat (refine stepK_in ?_; (repeat (first | refine seqQ_n ?_ | refine blockQ_n ?_ | refine awp_skip ?_ | refine awp_seq ?_ | refine awp_block ?_)); (conv => whnf)))
  refine ldk (ver := 0) (o := 0 + (l.length : Int).toNat * 12 + (h : Int).toNat * 1) (sz := 156) (by omega) ?_
  ((conv => whnf); repeat (refine stepK_in ?_; (repeat (first | refine seqQ_n ?_ | refine blockQ_n ?_ | refine awp_skip ?_ | refine awp_seq ?_ | refine awp_block ?_)); (conv => whnf)))
  refine ⟨inr (by omega), ?_⟩
  ((conv => whnf); repeat (refine stepK_in ?_; (repeat (first | refine seqQ_n ?_ | refine blockQ_n ?_ | refine awp_skip ?_ | refine awp_seq ?_ | refine awp_block ?_)); (conv => whnf)))
  refine ⟨(show (0 : Int) ≤ (l.length : Int) - 1 by omega), ?_⟩
  refine ⟨(show (l.length : Int) - 1 < 13 by omega), ?_⟩
  ((conv => whnf); repeat (refine stepK_in ?_; (repeat (first | refine seqQ_n ?_ | refine blockQ_n ?_ | refine awp_skip ?_ | refine awp_seq ?_ | refine awp_block ?_)); (conv => whnf)))
  refine ⟨by omega, ?_⟩
  refine ⟨(show (h : Int) < 12 by omega), ?_⟩
  ((conv => whnf); repeat (refine stepK_in ?_; (repeat (first | refine seqQ_n ?_ | refine blockQ_n ?_ | refine awp_skip ?_ | refine awp_seq ?_ | refine awp_block ?_)); (conv => whnf)))
  refine ldk (ver := 0) (o := 0 + ((l.length : Int) - 1).toNat * 12 + (h : Int).toNat * 1) (sz := 156) (by omega) ?_
  ((conv => whnf); repeat (refine stepK_in ?_; (repeat (first | refine seqQ_n ?_ | refine blockQ_n ?_ | refine awp_skip ?_ | refine awp_seq ?_ | refine awp_block ?_)); (conv => whnf)))
  refine br_eq (fun he => ?_) (fun hne => ?_)
  · have he := (hg l.length h (0 + (l.length : Int).toNat * 12 + (h : Int).toNat * 1) (Nat.le_refl _) (by omega) (by omega)).symm.trans (he.trans (hg (l.length - 1) h (0 + ((l.length : Int) - 1).toNat * 12 + (h : Int).toNat * 1) (by omega) (by omega) (by omega)))
    have hlt : h < q := by
      rcases (by omega : h < q ∨ h = q) with h3 | rfl
      · exact h3
      · exact absurd he hqn
    ((conv => whnf); repeat (refine stepK_in ?_; (repeat (first | refine seqQ_n ?_ | refine blockQ_n ?_ | refine awp_skip ?_ | refine awp_seq ?_ | refine awp_block ?_)); (conv => whnf)))
    refine ⟨inr (by omega), ?_⟩
    ((conv => whnf); repeat (refine stepK_in ?_; (repeat (first | refine seqQ_n ?_ | refine blockQ_n ?_ | refine awp_skip ?_ | refine awp_seq ?_ | refine awp_block ?_)); (conv => whnf)))
    refine ⟨by repeat (first | exact trivial | exact rfl | exact fun _ _ _ _ => trivial |  exact fun _ => trivial | exact fun _ _ => trivial | exact fun _ _ _ => trivial | exact fun _ _ _ _ => trivial | refine And.intro ?_ ?_), same1 ⟨⟨h + 1, hlt, fun j hj => ?_, rfl, rfl⟩, ?_⟩⟩
    · rcases (by omega : j < h ∨ j = h) with h3 | rfl
      · exact hh j h3
      · exact he
    · simp [V.toInt, sel, Env.get]; omega
  have hne : rdT l long T l.length h ≠ rdT l long T (l.length - 1) h := fun e => hne ((hg l.length h (0 + (l.length : Int).toNat * 12 + (h : Int).toNat * 1) (Nat.le_refl _) (by omega) (by omega)).trans (e.trans (hg (l.length - 1) h (0 + ((l.length : Int) - 1).toNat * 12 + (h : Int).toNat * 1) (by omega) (by omega) (by omega)).symm))
  have hr : rdT l long T (l.length - 1) h < rdT l long T l.length h := by
    have := rdT_upto (l := l) (long := long) (T := T) h (a := l.length - 1) (b := l.length) (by omega)
    omega
  have hhn : h < l.length := by omega
  clear hne hqn
  ((conv => whnf); repeat (refine stepK_in ?_; (repeat (first | refine seqQ_n ?_ | refine blockQ_n ?_ | refine awp_skip ?_ | refine awp_seq ?_ | refine awp_block ?_)); (conv => whnf)))
  refine (Repeat_cm _ _ _ (-1) l.length (by omega)).mono ?_
  rintro R M' ⟨rfl, rfl⟩
  ((conv => whnf); repeat (refine stepK_in ?_; (repeat (first | refine seqQ_n ?_ | refine blockQ_n ?_ | refine awp_skip ?_ | refine awp_seq ?_ | refine awp_block ?_)); (conv => whnf)))
  refine AW_loopA (X := ⟨Try.prog, tab, wrP, 88, nb, false⟩) tab_ok [1, 3, 5, 6, 7, 8] (fun t => Nat.blt t 5 || Nat.beq t 6) (fun vs M => ∃ (i : Nat) (m : List Int) (o : V), Way l long T h i m ∧ vs = [.ptr 1 0 0 0, .ptr 2 0 0 0, .int (hW l long T h i), o, .sl 4 0 0 l.length, .int ((l.length : Int) - i)] ∧ OutP l long T m (yL l long T h i) o M)
    (fun vs _ => (vs.getD 5 .any).toInt.toNat) (fun t ht => by have : t < 5 := ht; simp; omega) ?_ ?_
  · exact same0 ⟨0, List.replicate l.length (-1), .emp true, way_zero, Eq.trans rfl (congrArg (fun z => [V.ptr 1 0 0 0, .ptr 2 0 0 0, .int h, .emp true, .sl 4 0 0 l.length, .int z]) (show (l.length : Int) = (l.length : Int) - ((0 : Nat) : Int) by omega)), .inl ⟨rfl, rfl, rfl⟩⟩
  rintro vs M ⟨i, m, o, hw, rfl, hO⟩
  have hhw := hW_lt (long := long) (T := T) h1 hhn i
  have hin := hw.i_n
  have hml := hw.len
  have hyl := yL_len (l := l) (long := long) (T := T) (h0 := h) i
  have hnx : hW l long T h (i + 1) = nxH l long T (l.length - i) (hW l long T h i) := rfl
  have hyx : yL l long T h (i + 1) = if isNd l long T (l.length - i) (hW l long T h i) = true then yL l long T h i ++ [(arH l.length ((hW l long T h i : Int) - 1) : Int)] else yL l long T h i := rfl
  have hstep : m.getD (hW l long T h i) 0 < 0 → _ := fun hm => way_step h1 hhn hw hm
  have hend : ¬ m.getD (hW l long T h i) 0 < 0 → _ := fun hm => way_end h1 hhn hr hh hw hm
  generalize hgg : hW l long T h i = g at *
  generalize hYY : yL l long T h i = Y at *
  rcases hO with ⟨hY, rfl, rfl⟩ | ⟨hY, ver, rfl, rfl⟩
  · subst hY
    ((conv => whnf); repeat (refine stepK_in ?_; (repeat (first | refine seqQ_n ?_ | refine blockQ_n ?_ | refine awp_skip ?_ | refine awp_seq ?_ | refine awp_block ?_)); (conv => whnf)))
    refine ⟨(show (0 : Int) ≤ (g : Int) by omega), ?_⟩
    refine ⟨(show (g : Int) < (l.length : Int) by omega), ?_⟩
    ((conv => whnf); repeat (refine stepK_in ?_; (repeat (first | refine seqQ_n ?_ | refine blockQ_n ?_ | refine awp_skip ?_ | refine awp_seq ?_ | refine awp_block ?_)); (conv => whnf)))
    rw [show 0 + (g : Int).toNat = g by omega]
    refine br_dec (fun hlt => ?_) (fun hge => ?_)
    · obtain ⟨hin, hw'⟩ := hstep hlt
      have hnd := needed_pure l long T g (rdT l long T (l.length - i - 1)) h1 h2 hl1 hl2 hl (by omega) (rdT_bdT h1 hl hT.1 (by omega)) (by omega)
      have ca := around_pure l long ((g : Int) - long) h1 h2 (by omega)
      have cb := around_pure l long ((g : Int) - 1) h1 h2 (by omega)
      have hrd : rdF l long T (0 + ((l.length : Int) - i).toNat * 12 + (g : Int).toNat * 1) = rdT l long T (l.length - i) g := hg (l.length - i) g _ (by omega) (by omega) (by omega)
      have hrt : ∀ q, q < 12 → V.int (rdF l long T ((0 + ((l.length : Int) - i - 1).toNat * 12) + q)) = V.int (rdT l long T (l.length - i - 1) q) := fun q hq => congrArg V.int (hg (l.length - i - 1) q _ (by omega) hq (by omega))
      have ei : (l.length : Int) - i - 1 = (l.length : Int) - ((i + 1 : Nat) : Int) := by omega
      ((conv => whnf); repeat (refine stepK_in ?_; (repeat (first | refine seqQ_n ?_ | refine blockQ_n ?_ | refine awp_skip ?_ | refine awp_seq ?_ | refine awp_block ?_)); (conv => whnf)))
      refine ⟨(show (0 : Int) ≤ (g : Int) by omega), ?_⟩
      refine ⟨(show (g : Int) < (l.length : Int) by omega), ?_⟩
      ((conv => whnf); repeat (refine stepK_in ?_; (repeat (first | refine seqQ_n ?_ | refine blockQ_n ?_ | refine awp_skip ?_ | refine awp_seq ?_ | refine awp_block ?_)); (conv => whnf)))
      rw [show 0 + (g : Int).toNat = g by omega]
      refine AW_draw (X := ⟨Try.prog, tab, wrP, 88, nb, false⟩) tab_ok mixed (by kernel_rfl) ?_
      ((conv => whnf); repeat (refine stepK_in ?_; (repeat (first | refine seqQ_n ?_ | refine blockQ_n ?_ | refine awp_skip ?_ | refine awp_seq ?_ | refine awp_block ?_)); (conv => whnf)))
      refine ⟨by omega, ?_⟩
      refine ⟨(show (l.length : Int) - (i : Int) < 13 by omega), ?_⟩
      ((conv => whnf); repeat (refine stepK_in ?_; (repeat (first | refine seqQ_n ?_ | refine blockQ_n ?_ | refine awp_skip ?_ | refine awp_seq ?_ | refine awp_block ?_)); (conv => whnf)))
      refine ⟨by omega, ?_⟩
      refine ⟨(show (g : Int) < 12 by omega), ?_⟩
      ((conv => whnf); repeat (refine stepK_in ?_; (repeat (first | refine seqQ_n ?_ | refine blockQ_n ?_ | refine awp_skip ?_ | refine awp_seq ?_ | refine awp_block ?_)); (conv => whnf)))
      refine ldk (ver := 0) (o := (0 + ((l.length : Int) - i).toNat * 12 + (g : Int).toNat * 1)) (sz := 156) (by omega) ?_
      ((conv => whnf); repeat (refine stepK_in ?_; (repeat (first | refine seqQ_n ?_ | refine blockQ_n ?_ | refine awp_skip ?_ | refine awp_seq ?_ | refine awp_block ?_)); (conv => whnf)))
      refine ⟨inr (by omega), ?_⟩
      ((conv => whnf); repeat (refine stepK_in ?_; (repeat (first | refine seqQ_n ?_ | refine blockQ_n ?_ | refine awp_skip ?_ | refine awp_seq ?_ | refine awp_block ?_)); (conv => whnf)))
      refine ⟨(show (0 : Int) ≤ (l.length : Int) - i - 1 by omega), ?_⟩
      refine ⟨(show (l.length : Int) - i - 1 < 13 by omega), ?_⟩
      ((conv => whnf); repeat (refine stepK_in ?_; (repeat (first | refine seqQ_n ?_ | refine blockQ_n ?_ | refine awp_skip ?_ | refine awp_seq ?_ | refine awp_block ?_)); (conv => whnf)))
      refine ldak (ver := 0) (m := (0 + ((l.length : Int) - i - 1).toNat * 12) + 12) (sz := 156) (by omega) ?_
      ((conv => whnf); repeat (refine stepK_in ?_; (repeat (first | refine seqQ_n ?_ | refine blockQ_n ?_ | refine awp_skip ?_ | refine awp_seq ?_ | refine awp_block ?_)); (conv => whnf)))
      refine ⟨_, APure.arg3 (subTr rfl rfl rfl) (subTb fun q hq => hrt q hq) (Sub.refl _) hnd, ?_⟩
      ((conv => whnf); repeat (refine stepK_in ?_; (repeat (first | refine seqQ_n ?_ | refine blockQ_n ?_ | refine awp_skip ?_ | refine awp_seq ?_ | refine awp_block ?_)); (conv => whnf)))
      refine br_eq (fun he => ?_) (fun hne => ?_)
      · have hnd : isNd l long T (l.length - i) g = true := by
          unfold isNd
          rw [beq_iff_eq]
          exact hrd.symm.trans he
        unfold nxH at hnx
        rw [if_pos hnd] at hnx hyx
        clear he hnd
        have har := arH_lt (n := l.length) h1 ((g : Int) - 1)
        have har2 := arH_lt (n := l.length) h1 ((g : Int) - long)
        ((conv => whnf); repeat (refine stepK_in ?_; (repeat (first | refine seqQ_n ?_ | refine blockQ_n ?_ | refine awp_skip ?_ | refine awp_seq ?_ | refine awp_block ?_)); (conv => whnf)))
        refine ⟨inr (by omega), ?_⟩
        ((conv => whnf); repeat (refine stepK_in ?_; (repeat (first | refine seqQ_n ?_ | refine blockQ_n ?_ | refine awp_skip ?_ | refine awp_seq ?_ | refine awp_block ?_)); (conv => whnf)))
        refine APure.to (APure.arg2 (subCk rfl rfl) (Sub.refl _) cb) ?_
        ((conv => whnf); repeat (refine stepK_in ?_; (repeat (first | refine seqQ_n ?_ | refine blockQ_n ?_ | refine awp_skip ?_ | refine awp_seq ?_ | refine awp_block ?_)); (conv => whnf)))
        refine ⟨(show (8 : Int) * ((1 : Nat) : Int) ≤ 140737488355328 by decide), ?_⟩
        ((conv => whnf); repeat (refine stepK_in ?_; (repeat (first | refine seqQ_n ?_ | refine blockQ_n ?_ | refine awp_skip ?_ | refine awp_seq ?_ | refine awp_block ?_)); (conv => whnf)))
        refine ⟨inr (by omega), ?_⟩
        ((conv => whnf); repeat (refine stepK_in ?_; (repeat (first | refine seqQ_n ?_ | refine blockQ_n ?_ | refine awp_skip ?_ | refine awp_seq ?_ | refine awp_block ?_)); (conv => whnf)))
        refine APure.to (APure.arg2 (subCk rfl rfl) (Sub.refl _) ca) ?_
        ((conv => whnf); repeat (refine stepK_in ?_; (repeat (first | refine seqQ_n ?_ | refine blockQ_n ?_ | refine awp_skip ?_ | refine awp_seq ?_ | refine awp_block ?_)); (conv => whnf)))
        refine ⟨inr (by omega), ?_⟩
        ((conv => whnf); repeat (refine stepK_in ?_; (repeat (first | refine seqQ_n ?_ | refine blockQ_n ?_ | refine awp_skip ?_ | refine awp_seq ?_ | refine awp_block ?_)); (conv => whnf)))
        rw [ei]
        refine ⟨by repeat (first | exact trivial | exact rfl | exact fun _ _ _ _ => trivial | exact fun _ => trivial | exact fun _ _ => trivial | exact fun _ _ _ => trivial | refine And.intro ?_ ?_), memA1 (obs4 l long T (m.set g (([] : List Int).length : Int)) [none, some ⟨3, 1, 0, .il [(arH l.length ((g : Int) - 1) : Int)]⟩]) ⟨ObSub.refl _, ObSub.refl _, ObSub.refl _, ObSub.refl _, ObSub.refl _, ObSub.refl _, trivial⟩ ⟨⟨i + 1, _, .sl 6 0 0 1, hw', ?_, .inr ⟨by rw [hyx]; exact List.cons_ne_nil _ _, 0, ?_, ?_⟩⟩, ?_⟩⟩
        · rw [hnx]; rfl
        · rw [hyx]; rfl
        · rw [hyx]; rfl
        · simp [V.toInt, sel, Env.get]; omega
      · have hnd : ¬ isNd l long T (l.length - i) g = true := fun e => hne (hrd.trans (eq_of_beq (show (rdT l long T (l.length - i) g == ndT l long T (rdT l long T (l.length - i - 1)) g) = true from e)))
        unfold nxH at hnx
        rw [if_neg hnd] at hnx hyx
        clear hne hnd
        ((conv => whnf); repeat (refine stepK_in ?_; (repeat (first | refine seqQ_n ?_ | refine blockQ_n ?_ | refine awp_skip ?_ | refine awp_seq ?_ | refine awp_block ?_)); (conv => whnf)))
        refine ⟨inr (by omega), ?_⟩
        ((conv => whnf); repeat (refine stepK_in ?_; (repeat (first | refine seqQ_n ?_ | refine blockQ_n ?_ | refine awp_skip ?_ | refine awp_seq ?_ | refine awp_block ?_)); (conv => whnf)))
        refine APure.to (APure.arg2 (subCk rfl rfl) (Sub.refl _) cb) ?_
        ((conv => whnf); repeat (refine stepK_in ?_; (repeat (first | refine seqQ_n ?_ | refine blockQ_n ?_ | refine awp_skip ?_ | refine awp_seq ?_ | refine awp_block ?_)); (conv => whnf)))
        refine ⟨inr (by omega), ?_⟩
        ((conv => whnf); repeat (refine stepK_in ?_; (repeat (first | refine seqQ_n ?_ | refine blockQ_n ?_ | refine awp_skip ?_ | refine awp_seq ?_ | refine awp_block ?_)); (conv => whnf)))
        rw [ei]
        refine ⟨by repeat (first | exact trivial | exact rfl | exact fun _ _ _ _ => trivial | exact fun _ => trivial | exact fun _ _ => trivial | exact fun _ _ _ => trivial | refine And.intro ?_ ?_), same1 ⟨⟨i + 1, _, .emp true, hw', ?_, .inl ⟨hyx, rfl, rfl⟩⟩, ?_⟩⟩
        · rw [hnx]; rfl
        · simp [V.toInt, sel, Env.get]; omega
    · obtain ⟨a, hra, hma⟩ := hend hge
      have := rg_pos h1 hl1 hl2 hT.1 hra
      rw [hYY] at this
      exact absurd this (by simp)
  · ((conv => whnf); repeat (refine stepK_in ?_; (repeat (first | refine seqQ_n ?_ | refine blockQ_n ?_ | refine awp_skip ?_ | refine awp_seq ?_ | refine awp_block ?_)); (conv => whnf)))
    refine ⟨(show (0 : Int) ≤ (g : Int) by omega), ?_⟩
    refine ⟨(show (g : Int) < (l.length : Int) by omega), ?_⟩
    ((conv => whnf); repeat (refine stepK_in ?_; (repeat (first | refine seqQ_n ?_ | refine blockQ_n ?_ | refine awp_skip ?_ | refine awp_seq ?_ | refine awp_block ?_)); (conv => whnf)))
    rw [show 0 + (g : Int).toNat = g by omega]
    refine br_dec (fun hlt => ?_) (fun hge => ?_)
    · obtain ⟨hin, hw'⟩ := hstep hlt
      have hnd := needed_pure l long T g (rdT l long T (l.length - i - 1)) h1 h2 hl1 hl2 hl (by omega) (rdT_bdT h1 hl hT.1 (by omega)) (by omega)
      have ca := around_pure l long ((g : Int) - long) h1 h2 (by omega)
      have cb := around_pure l long ((g : Int) - 1) h1 h2 (by omega)
      have hrd : rdF l long T (0 + ((l.length : Int) - i).toNat * 12 + (g : Int).toNat * 1) = rdT l long T (l.length - i) g := hg (l.length - i) g _ (by omega) (by omega) (by omega)
      have hrt : ∀ q, q < 12 → V.int (rdF l long T ((0 + ((l.length : Int) - i - 1).toNat * 12) + q)) = V.int (rdT l long T (l.length - i - 1) q) := fun q hq => congrArg V.int (hg (l.length - i - 1) q _ (by omega) hq (by omega))
      have ei : (l.length : Int) - i - 1 = (l.length : Int) - ((i + 1 : Nat) : Int) := by omega
      ((conv => whnf); repeat (refine stepK_in ?_; (repeat (first | refine seqQ_n ?_ | refine blockQ_n ?_ | refine awp_skip ?_ | refine awp_seq ?_ | refine awp_block ?_)); (conv => whnf)))
      refine eqn_self ?_
      ((conv => whnf); repeat (refine stepK_in ?_; (repeat (first | refine seqQ_n ?_ | refine blockQ_n ?_ | refine awp_skip ?_ | refine awp_seq ?_ | refine awp_block ?_)); (conv => whnf)))
      refine ⟨(show (0 : Int) ≤ (g : Int) by omega), ?_⟩
      refine ⟨(show (g : Int) < (l.length : Int) by omega), ?_⟩
      ((conv => whnf); repeat (refine stepK_in ?_; (repeat (first | refine seqQ_n ?_ | refine blockQ_n ?_ | refine awp_skip ?_ | refine awp_seq ?_ | refine awp_block ?_)); (conv => whnf)))
      rw [show 0 + (g : Int).toNat = g by omega]
      refine AW_draw (X := ⟨Try.prog, tab, wrP, 88, nb, false⟩) tab_ok mixed (by kernel_rfl) ?_
      ((conv => whnf); repeat (refine stepK_in ?_; (repeat (first | refine seqQ_n ?_ | refine blockQ_n ?_ | refine awp_skip ?_ | refine awp_seq ?_ | refine awp_block ?_)); (conv => whnf)))
      refine ⟨by omega, ?_⟩
      refine ⟨(show (l.length : Int) - (i : Int) < 13 by omega), ?_⟩
      ((conv => whnf); repeat (refine stepK_in ?_; (repeat (first | refine seqQ_n ?_ | refine blockQ_n ?_ | refine awp_skip ?_ | refine awp_seq ?_ | refine awp_block ?_)); (conv => whnf)))
      refine ⟨by omega, ?_⟩
      refine ⟨(show (g : Int) < 12 by omega), ?_⟩
      ((conv => whnf); repeat (refine stepK_in ?_; (repeat (first | refine seqQ_n ?_ | refine blockQ_n ?_ | refine awp_skip ?_ | refine awp_seq ?_ | refine awp_block ?_)); (conv => whnf)))
      refine ldk (ver := 0) (o := (0 + ((l.length : Int) - i).toNat * 12 + (g : Int).toNat * 1)) (sz := 156) (by omega) ?_
      ((conv => whnf); repeat (refine stepK_in ?_; (repeat (first | refine seqQ_n ?_ | refine blockQ_n ?_ | refine awp_skip ?_ | refine awp_seq ?_ | refine awp_block ?_)); (conv => whnf)))
      refine ⟨inr (by omega), ?_⟩
      ((conv => whnf); repeat (refine stepK_in ?_; (repeat (first | refine seqQ_n ?_ | refine blockQ_n ?_ | refine awp_skip ?_ | refine awp_seq ?_ | refine awp_block ?_)); (conv => whnf)))
      refine ⟨(show (0 : Int) ≤ (l.length : Int) - i - 1 by omega), ?_⟩
      refine ⟨(show (l.length : Int) - i - 1 < 13 by omega), ?_⟩
      ((conv => whnf); repeat (refine stepK_in ?_; (repeat (first | refine seqQ_n ?_ | refine blockQ_n ?_ | refine awp_skip ?_ | refine awp_seq ?_ | refine awp_block ?_)); (conv => whnf)))
      refine ldak (ver := 0) (m := (0 + ((l.length : Int) - i - 1).toNat * 12) + 12) (sz := 156) (by omega) ?_
      ((conv => whnf); repeat (refine stepK_in ?_; (repeat (first | refine seqQ_n ?_ | refine blockQ_n ?_ | refine awp_skip ?_ | refine awp_seq ?_ | refine awp_block ?_)); (conv => whnf)))
      refine ⟨_, APure.arg3 (subTr rfl rfl rfl) (subTb fun q hq => hrt q hq) (Sub.refl _) hnd, ?_⟩
      ((conv => whnf); repeat (refine stepK_in ?_; (repeat (first | refine seqQ_n ?_ | refine blockQ_n ?_ | refine awp_skip ?_ | refine awp_seq ?_ | refine awp_block ?_)); (conv => whnf)))
      refine br_eq (fun he => ?_) (fun hne => ?_)
      · have hnd : isNd l long T (l.length - i) g = true := by
          unfold isNd
          rw [beq_iff_eq]
          exact hrd.symm.trans he
        unfold nxH at hnx
        rw [if_pos hnd] at hnx hyx
        clear he hnd
        have har := arH_lt (n := l.length) h1 ((g : Int) - 1)
        have har2 := arH_lt (n := l.length) h1 ((g : Int) - long)
        ((conv => whnf); repeat (refine stepK_in ?_; (repeat (first | refine seqQ_n ?_ | refine blockQ_n ?_ | refine awp_skip ?_ | refine awp_seq ?_ | refine awp_block ?_)); (conv => whnf)))
        refine ⟨inr (by omega), ?_⟩
        ((conv => whnf); repeat (refine stepK_in ?_; (repeat (first | refine seqQ_n ?_ | refine blockQ_n ?_ | refine awp_skip ?_ | refine awp_seq ?_ | refine awp_block ?_)); (conv => whnf)))
        refine APure.to (APure.arg2 (subCk rfl rfl) (Sub.refl _) cb) ?_
        ((conv => whnf); repeat (refine stepK_in ?_; (repeat (first | refine seqQ_n ?_ | refine blockQ_n ?_ | refine awp_skip ?_ | refine awp_seq ?_ | refine awp_block ?_)); (conv => whnf)))
        refine eqn_self ?_
        ((conv => whnf); repeat (refine stepK_in ?_; (repeat (first | refine seqQ_n ?_ | refine blockQ_n ?_ | refine awp_skip ?_ | refine awp_seq ?_ | refine awp_block ?_)); (conv => whnf)))
        refine ⟨(show (8 : Int) * ((Y.length : Int) + ((1 : Nat) : Int)) ≤ 140737488355328 by omega), ?_⟩
        ((conv => whnf); repeat (refine stepK_in ?_; (repeat (first | refine seqQ_n ?_ | refine blockQ_n ?_ | refine awp_skip ?_ | refine awp_seq ?_ | refine awp_block ?_)); (conv => whnf)))
        refine ⟨inr (by omega), ?_⟩
        ((conv => whnf); repeat (refine stepK_in ?_; (repeat (first | refine seqQ_n ?_ | refine blockQ_n ?_ | refine awp_skip ?_ | refine awp_seq ?_ | refine awp_block ?_)); (conv => whnf)))
        refine APure.to (APure.arg2 (subCk rfl rfl) (Sub.refl _) ca) ?_
        ((conv => whnf); repeat (refine stepK_in ?_; (repeat (first | refine seqQ_n ?_ | refine blockQ_n ?_ | refine awp_skip ?_ | refine awp_seq ?_ | refine awp_block ?_)); (conv => whnf)))
        refine ⟨inr (by omega), ?_⟩
        ((conv => whnf); repeat (refine stepK_in ?_; (repeat (first | refine seqQ_n ?_ | refine blockQ_n ?_ | refine awp_skip ?_ | refine awp_seq ?_ | refine awp_block ?_)); (conv => whnf)))
        rw [ei]
        refine ⟨by repeat (first | exact trivial | exact rfl | exact fun _ _ _ _ => trivial | exact fun _ => trivial | exact fun _ _ => trivial | exact fun _ _ _ => trivial | refine And.intro ?_ ?_), memA1 (obs4 l long T (m.set g (Y.length : Int)) [none, some ⟨3, 1, ver + 1, .il (Y ++ [(arH l.length ((g : Int) - 1) : Int)])⟩]) ⟨ObSub.refl _, ObSub.refl _, ObSub.refl _, ObSub.refl _, ObSub.refl _, ObSub.ii (by rw [List.take_of_length_le (Nat.le_refl _)]; rfl), trivial⟩ ⟨⟨i + 1, _, .sl 6 (ver + 1) 0 (Y.length + 1), hw', ?_, .inr ⟨by rw [hyx]; simp, ver + 1, ?_, ?_⟩⟩, ?_⟩⟩
        · rw [hnx]; rfl
        · rw [hyx, List.length_append]; rfl
        · rw [hyx]
        · simp [V.toInt, sel, Env.get]; omega
      · have hnd : ¬ isNd l long T (l.length - i) g = true := fun e => hne (hrd.trans (eq_of_beq (show (rdT l long T (l.length - i) g == ndT l long T (rdT l long T (l.length - i - 1)) g) = true from e)))
        unfold nxH at hnx
        rw [if_neg hnd] at hnx hyx
        clear hne hnd
        ((conv => whnf); repeat (refine stepK_in ?_; (repeat (first | refine seqQ_n ?_ | refine blockQ_n ?_ | refine awp_skip ?_ | refine awp_seq ?_ | refine awp_block ?_)); (conv => whnf)))
        refine ⟨inr (by omega), ?_⟩
        ((conv => whnf); repeat (refine stepK_in ?_; (repeat (first | refine seqQ_n ?_ | refine blockQ_n ?_ | refine awp_skip ?_ | refine awp_seq ?_ | refine awp_block ?_)); (conv => whnf)))
        refine APure.to (APure.arg2 (subCk rfl rfl) (Sub.refl _) cb) ?_
        ((conv => whnf); repeat (refine stepK_in ?_; (repeat (first | refine seqQ_n ?_ | refine blockQ_n ?_ | refine awp_skip ?_ | refine awp_seq ?_ | refine awp_block ?_)); (conv => whnf)))
        refine ⟨inr (by omega), ?_⟩
        ((conv => whnf); repeat (refine stepK_in ?_; (repeat (first | refine seqQ_n ?_ | refine blockQ_n ?_ | refine awp_skip ?_ | refine awp_seq ?_ | refine awp_block ?_)); (conv => whnf)))
        rw [ei]
        refine ⟨by repeat (first | exact trivial | exact rfl | exact fun _ _ _ _ => trivial | exact fun _ => trivial | exact fun _ _ => trivial | exact fun _ _ _ => trivial | refine And.intro ?_ ?_), same1 ⟨⟨i + 1, _, .sl 6 ver 0 Y.length, hw', ?_, .inr ⟨by rw [hyx]; exact hY, ver, by rw [hyx], by rw [hyx]; rfl⟩⟩, ?_⟩⟩
        · rw [hnx]; rfl
        · simp [V.toInt, sel, Env.get]; omega
    · obtain ⟨a, hra, hma⟩ := hend hge
      have hpos := rg_pos h1 hl1 hl2 hT.1 hra
      rw [hYY] at hpos
      ((conv => whnf); repeat (refine stepK_in ?_; (repeat (first | refine seqQ_n ?_ | refine blockQ_n ?_ | refine awp_skip ?_ | refine awp_seq ?_ | refine awp_block ?_)); (conv => whnf)))
      refine ⟨(show (0 : Int) ≤ (g : Int) by omega), ?_⟩
      refine ⟨(show (g : Int) < (l.length : Int) by omega), ?_⟩
      ((conv => whnf); repeat (refine stepK_in ?_; (repeat (first | refine seqQ_n ?_ | refine blockQ_n ?_ | refine awp_skip ?_ | refine awp_seq ?_ | refine awp_block ?_)); (conv => whnf)))
      rw [show 0 + (g : Int).toNat = g by omega, hma]
      ((conv => whnf); repeat (refine stepK_in ?_; (repeat (first | refine seqQ_n ?_ | refine blockQ_n ?_ | refine awp_skip ?_ | refine awp_seq ?_ | refine awp_block ?_)); (conv => whnf)))
      refine eqn_self ?_
      ((conv => whnf); repeat (refine stepK_in ?_; (repeat (first | refine seqQ_n ?_ | refine blockQ_n ?_ | refine awp_skip ?_ | refine awp_seq ?_ | refine awp_block ?_)); (conv => whnf)))
      refine ⟨(show (0 : Int) ≤ ((yL l long T h a).length : Int) by omega), ?_⟩
      refine ⟨(show ((yL l long T h a).length : Int) ≤ (Y.length : Int) by omega), ?_⟩
      refine ⟨(show (Y.length : Int) ≤ (Y.length : Int) by omega), ?_⟩
      ((conv => whnf); repeat (refine stepK_in ?_; (repeat (first | refine seqQ_n ?_ | refine blockQ_n ?_ | refine awp_skip ?_ | refine awp_seq ?_ | refine awp_block ?_)); (conv => whnf)))
      refine ⟨_, rfl, h, a, i, ver, m, hra, ?_, ?_⟩
      · show V.sl 6 ver (0 + ((yL l long T h a).length : Int).toNat) ((Y.length : Int).toNat - ((yL l long T h a).length : Int).toNat) = _
        simp only [Int.toNat_natCast, Nat.zero_add, hYY]
      · rw [hYY]

open Classical in
/-- The proof of a trial, put into order. -/
noncomputable def prL (l : List Int) (long : Nat) (T : Int) : List Int := if h : ∃ D : List Int, ∃ h0 a b, IsRing l long T h0 a b ∧ D = sortP ltI (rgL l long T h0 a b) (rgL l long T h0 a b).length then h.choose else []
theorem prL_is {l : List Int} {long : Nat} {T : Int} {h0 a b : Nat} (hr : IsRing l long T h0 a b) : prL l long T = sortP ltI (rgL l long T h0 a b) (rgL l long T h0 a b).length := by
  have hex : ∃ D : List Int, ∃ h0 a b, IsRing l long T h0 a b ∧ D = sortP ltI (rgL l long T h0 a b) (rgL l long T h0 a b).length := ⟨_, h0, a, b, hr, rfl⟩
  unfold prL
  rw [dif_pos hex]
  obtain ⟨h0', a', b', hr', e⟩ := hex.choose_spec
  rw [e]
  obtain ⟨e1, e2, e3⟩ := hr.uniq hr'
  rw [e1, e2, e3]
noncomputable def prV (l : List Int) (long : Int) : V := if dayE l long = 0 then (if leL l long = 0 then tup2 (.ints true []) (.int 10) else tup2 (.ints true (prL l long.toNat ((leL l long : Int) - 1))) (.int 0)) else tup2 (.ints true []) (.int (dayE l long))

theorem sL_putL (f : Int → Int) (q : List Int) (x : Int) (r : List Int) (j : Nat) : sL f (putL q x r j) = sL f q + f x + sL f r := by
  unfold putL
  rw [sL_app, sL_app, sL_app, sL_one]
  have := sL_app f (q.take j) (q.drop j)
  rw [List.take_append_drop] at this
  omega
theorem sL_sortP (f : Int → Int) (xs : List Int) : ∀ k, sL f (sortP ltI xs k) = sm k (fun i => f (xs.getD i 0)) := by
  intro k
  induction k with
  | zero => rfl
  | succ k ih =>
    simp only [sortP, insP, sm]
    rw [sL_putL, ih, sL_nil]
    omega
/-- What Proof returns is a proof that is worth Least. -/
theorem prL_worth {l : List Int} {long : Nat} {T : Int} {h0 a b : Nat} (hn : Nds l) (hl1 : 1 ≤ long) (hl : long ≤ l.length) (hT : T = (leL l long : Int) - 1) (hT0 : 0 ≤ T) (hr : IsRing l long T h0 a b) : isPr l.length (prL l long T) ∧ wtL l long (prL l long T) = leL l long := by
  rw [prL_is hr]
  exact rg_worth hn hl1 hl hT hT0 hr (sortP_len _ _ _) (fun f => sL_sortP f _ _) (fun y hy => sortP_mem (Nat.le_refl _) hy)
theorem ring_ex {l : List Int} {long : Nat} {T : Int} (hn : Nds l) (hl1 : 1 ≤ long) (hl : long ≤ l.length) (hT0 : 0 ≤ T) (hT : T < leL l long) : okT l long T = false := by
  cases h : okT l long T with
  | false => rfl
  | true =>
    have := (fea_ok hn hl1 hl hT0).1 h
    omega

theorem ACM.arg1 {P : Program} {f : FuncId} {x y : V} {M : Mem} {Q : V → Mem → Prop} (h : Sub x y) (hy : ACM P f [y] M Q) : ACM P f [x] M Q := by
  unfold ACM at hy ⊢
  refine ⟨hy.1, fun nb base φ w args h1 hm hs ha => hy.2 nb base φ w args h1 hm hs fun i => ?_⟩
  match i with
  | 0 => exact h _ _ _ _ (ha 0)
  | i + 1 => exact ha (i + 1)
set_option maxRecDepth 100000 in
theorem Proof_pure (l : List Int) (long : Int) : APure Try.prog 32 [.ints false l, .int long] (fun R => R = prV l long ∧ (dayE l long = 0 → leL l long ≠ 0 → isPr l.length (prL l long.toNat ((leL l long : Int) - 1)) ∧ wtL l long.toNat (prL l long.toNat ((leL l long : Int) - 1)) = leL l long)) := by
  refine APure_of (X := ⟨Try.prog, tab, wrP, 31, 0, false⟩) tab_ok rfl (rs := [(.tmp 4, 22), (.tmp 5, 25)]) Try.func32 (by decide) rfl rfl rfl (by simp) (by simp [NoFr]) ?_
  intro hlen
  have c1 : dayE l long ≠ 0 → tup2 (.ints true []) (.int (dayE l long)) = prV l long := fun h => by unfold prV; rw [if_neg h]
  have c2 : dayE l long = 0 → leL l long = 0 → tup2 (.ints true []) (.int 10) = prV l long := fun h h' => by unfold prV; rw [if_pos h, if_pos h']
  have c3 : dayE l long = 0 → leL l long ≠ 0 → tup2 (.ints true (prL l long.toNat ((leL l long : Int) - 1))) (.int 0) = prV l long := fun h h' => by unfold prV; rw [if_pos h, if_neg h']
  generalize prV l long = E at *
  ((conv => whnf); repeat (refine stepK_in ?_; (repeat (first | refine seqQ_n ?_ | refine blockQ_n ?_ | refine awp_skip ?_ | refine awp_seq ?_ | refine awp_block ?_)); (conv => whnf)))
  refine APure.to (checkShifts_pure l long) ?_
  ((conv => whnf); repeat (refine stepK_in ?_; (repeat (first | refine seqQ_n ?_ | refine blockQ_n ?_ | refine awp_skip ?_ | refine awp_seq ?_ | refine awp_block ?_)); (conv => whnf)))
  refine br_ne (fun h => ?_) (fun h => ?_)
  · ((conv => whnf); repeat (refine stepK_in ?_; (repeat (first | refine seqQ_n ?_ | refine blockQ_n ?_ | refine awp_skip ?_ | refine awp_seq ?_ | refine awp_block ?_)); (conv => whnf)))
    refine ⟨rfl, trivial, c1 h, fun h' => absurd h' h⟩
  obtain ⟨hn, hl1, hl2⟩ := dayE_inv h
  have n11 := hn.1
  have n12 := hn.2.1
  obtain ⟨n, rfl⟩ : ∃ n : Nat, long = n := ⟨long.toNat, by omega⟩
  rw [Int.toNat_natCast] at *
  have hs := least_pure l n n11 n12 (by omega) (by omega) hn.wide
  have hle := leL_600 (long := n) hn (by omega) (by omega)
  have c2 := c2 h
  have c3 := c3 h
  ((conv => whnf); repeat (refine stepK_in ?_; (repeat (first | refine seqQ_n ?_ | refine blockQ_n ?_ | refine awp_skip ?_ | refine awp_seq ?_ | refine awp_block ?_)); (conv => whnf)))
  refine APure.to (APure.arg1 (subCk rfl rfl) hs) ?_
  ((conv => whnf); repeat (refine stepK_in ?_; (repeat (first | refine seqQ_n ?_ | refine blockQ_n ?_ | refine awp_skip ?_ | refine awp_seq ?_ | refine awp_block ?_)); (conv => whnf)))
  refine br_eq (fun h0 => ?_) (fun h0 => ?_)
  · have h0 : leL l n = 0 := by omega
    ((conv => whnf); repeat (refine stepK_in ?_; (repeat (first | refine seqQ_n ?_ | refine blockQ_n ?_ | refine awp_skip ?_ | refine awp_seq ?_ | refine awp_block ?_)); (conv => whnf)))
    exact ⟨rfl, trivial, c2 h0, fun _ h' => absurd h0 h'⟩
  · have h0 : leL l n ≠ 0 := fun e => h0 (by rw [e]; rfl)
    have hbad := ring_ex (long := n) (T := (leL l n : Int) - 1) hn (by omega) (by omega) (by omega) (by omega)
    have hpc := proof_cm l n ((leL l n : Int) - 1) n11 n12 (by omega) (by omega) hn.wide (by omega) hbad
    ((conv => whnf); repeat (refine stepK_in ?_; (repeat (first | refine seqQ_n ?_ | refine blockQ_n ?_ | refine awp_skip ?_ | refine awp_seq ?_ | refine awp_block ?_)); (conv => whnf)))
    refine ⟨inr (by omega), ?_⟩
    ((conv => whnf); repeat (refine stepK_in ?_; (repeat (first | refine seqQ_n ?_ | refine blockQ_n ?_ | refine awp_skip ?_ | refine awp_seq ?_ | refine awp_block ?_)); (conv => whnf)))
    refine (ACM.arg1 (subTr rfl rfl rfl) hpc).mono ?_
    rintro R M' ⟨h1, a, b, ver, m, hr, rfl, rfl⟩
    have hpw := prL_worth hn (by omega) (by omega) rfl (by omega) hr
    have hpr := prL_is hr
    have hpos := rg_pos n11 (by omega) (by omega) (by omega) hr
    have hyb := yL_len (l := l) (long := n) (T := (leL l n : Int) - 1) (h0 := h1) b
    have hbn := hr.bn
    have e1 : (yL l n ((leL l n : Int) - 1) h1 b).length - (yL l n ((leL l n : Int) - 1) h1 a).length = (rgL l n ((leL l n : Int) - 1) h1 a b).length := by unfold rgL; rw [List.length_drop]
    have e2 : yL l n ((leL l n : Int) - 1) h1 b = yL l n ((leL l n : Int) - 1) h1 a ++ rgL l n ((leL l n : Int) - 1) h1 a b := yL_cut (Nat.le_of_lt hr.ab)
    have c3 := c3 h0
    rw [hpr] at c3 hpw
    rw [e1, e2]
    generalize yL l n ((leL l n : Int) - 1) h1 b = Yb at *
    generalize yL l n ((leL l n : Int) - 1) h1 a = Ya at *
    generalize rgL l n ((leL l n : Int) - 1) h1 a b = D at *
    have hsl := sortP_len ltI D D.length
    ((conv => whnf); repeat (refine stepK_in ?_; (repeat (first | refine seqQ_n ?_ | refine blockQ_n ?_ | refine awp_skip ?_ | refine awp_seq ?_ | refine awp_block ?_)); (conv => whnf)))
    refine (sortB _ _ _ _ _ _ ver Ya D (by omega) (by omega)).mono ?_
    rintro R M' rfl
    ((conv => whnf); repeat (refine stepK_in ?_; (repeat (first | refine seqQ_n ?_ | refine blockQ_n ?_ | refine awp_skip ?_ | refine awp_seq ?_ | refine awp_block ?_)); (conv => whnf)))
    refine eqn_self ?_
    ((conv => whnf); repeat (refine stepK_in ?_; (repeat (first | refine seqQ_n ?_ | refine blockQ_n ?_ | refine awp_skip ?_ | refine awp_seq ?_ | refine awp_block ?_)); (conv => whnf)))
    refine ⟨rfl, trivial, Eq.trans (Q2 (Ql ?_) rfl) c3, fun _ _ => ?_⟩
    · rw [List.drop_left, List.take_of_length_le (by omega)]
    · rw [hpr]; exact hpw
end Go.Tri
