/-
  LAW: ShiftRounded.
-/
import Derived.Test.YthocieklelgmbaaE1
import Derived.Test.YthocieklelgmbaaM5
namespace Go.Tri
open Go.Proofs

/-- What Share returns, with its bounds. -/
structure ShOk (l : List Int) (long : Int) (a b : Int) : Prop where
  v : shV l long = tup2 (ratV a b) (.int 0)
  is : ShIs l long.toNat a b
  a0 : 0 ≤ a
  a1 : a ≤ 20000
  b0 : 1 ≤ b
  b1 : b ≤ 12
theorem shOk {l : List Int} {long : Int} (h : dayE l long = 0) : ∃ a b, ShOk l long a b := by
  obtain ⟨hn, hl1, hl2⟩ := dayE_inv h
  obtain ⟨n, rfl⟩ : ∃ n : Nat, long = n := ⟨long.toNat, by omega⟩
  have h12 := hn.2.1
  have hb := shR_bd (long := n) hn.1 hn.2.1 (by omega) (by omega) hn.2.2 (max 2 (n + 1)) (by omega) (by omega)
  refine ⟨_, _, by unfold shV; rw [if_pos h, Int.toNat_natCast], by rw [Int.toNat_natCast]; exact share_is (by omega), hb.1.1, hb.1.2, hb.2.1, by omega⟩
theorem leV_ok {l : List Int} {long : Int} (h : dayE l long = 0) : leV l long = tup2 (.int (leL l long)) (.int 0) := by unfold leV; rw [if_pos h]
theorem le600 {l : List Int} {long : Int} (h : dayE l long = 0) : (leL l long : Int) ≤ 600 := by
  obtain ⟨hn, hl1, hl2⟩ := dayE_inv h
  have := leL_600 (l := l) (long := long.toNat) hn (by omega) (by omega)
  rwa [show ((long.toNat : Nat) : Int) = long by omega] at this
theorem few40 {l : List Int} (h : l.length ≤ 40) : decide (l.length ≤ 40 ∧ ([] : List Int).length ≤ 100) = true := decide_eq_true ⟨h, by decide⟩
theorem few41 {l : List Int} (h : ¬ l.length ≤ 40) : decide (l.length ≤ 40 ∧ ([] : List Int).length ≤ 100) = false := decide_eq_false fun h' => h h'.1

theorem wf_u16 {a : Int} (h : (Lit.int .u16 a).wf = true) : 0 ≤ a ∧ a ≤ 65535 := by
  simp only [Lit.wf, Bool.and_eq_true, decide_eq_true_eq] at h
  exact h
theorem wf_u8 {p : Int} (h : (Lit.int .u8 p).wf = true) : 0 ≤ p ∧ p ≤ 255 := by
  simp only [Lit.wf, Bool.and_eq_true, decide_eq_true_eq] at h
  exact h
set_option maxRecDepth 100000 in
theorem ShiftRounded_pure (l : List Int) (long : Int) : APure Try.prog 9 [.ints false l, .int long] (fun R => R = .bool true) := by
  refine APure_of (X := cx 71) (cx_ok 71) rfl (rs := [(.tmp 4, 4)]) Try.func9 (by decide) rfl rfl rfl (by simp [cx]) (by simp [NoFr]) ?_
  intro hlen
  have fin := alive_pure
  have hfew := few_pure l []
  ((conv => whnf); repeat (refine stepK_in ?_; (repeat (first | refine seqQ_n ?_ | refine blockQ_n ?_ | refine awp_skip ?_ | refine awp_seq ?_ | refine awp_block ?_)); (conv => whnf)))
  refine APure.to hfew ?_
  by_cases h40 : l.length ≤ 40
  · rw [few40 h40]
    ((conv => whnf); repeat (refine stepK_in ?_; (repeat (first | refine seqQ_n ?_ | refine blockQ_n ?_ | refine awp_skip ?_ | refine awp_seq ?_ | refine awp_block ?_)); (conv => whnf)))
    refine APure.to (refDay_pure l long) ?_
    ((conv => whnf); repeat (refine stepK_in ?_; (repeat (first | refine seqQ_n ?_ | refine blockQ_n ?_ | refine awp_skip ?_ | refine awp_seq ?_ | refine awp_block ?_)); (conv => whnf)))
    refine br_ne (fun h => ?_) (fun h => ?_)
    · ((conv => whnf); repeat (refine stepK_in ?_; (repeat (first | refine seqQ_n ?_ | refine blockQ_n ?_ | refine awp_skip ?_ | refine awp_seq ?_ | refine awp_block ?_)); (conv => whnf)))
      refine APure.to fin ?_
      ((conv => whnf); repeat (refine stepK_in ?_; (repeat (first | refine seqQ_n ?_ | refine blockQ_n ?_ | refine awp_skip ?_ | refine awp_seq ?_ | refine awp_block ?_)); (conv => whnf)))
      exact ⟨trivial, rfl⟩
    obtain ⟨hn, hl1, hl2⟩ := dayE_inv h
    obtain ⟨a, b, hv, his, ha0, ha1, hb0, hb1⟩ := shOk h
    have c1 := Least_pure l long
    have c2 := Share_pure l long
    rw [leV_ok h] at c1
    rw [hv] at c2
    have hr := sh_round hn (by omega) (by omega) his
    rw [show ((long.toNat : Nat) : Int) = long by omega] at hr
    have hce := ceil_is hb0 ha0 hr.1 hr.2
    have hle := le600 h
    generalize leL l long = n1 at *
    ((conv => whnf); repeat (refine stepK_in ?_; (repeat (first | refine seqQ_n ?_ | refine blockQ_n ?_ | refine awp_skip ?_ | refine awp_seq ?_ | refine awp_block ?_)); (conv => whnf)))
    refine APure.to c1 ?_
    ((conv => whnf); repeat (refine stepK_in ?_; (repeat (first | refine seqQ_n ?_ | refine blockQ_n ?_ | refine awp_skip ?_ | refine awp_seq ?_ | refine awp_block ?_)); (conv => whnf)))
    refine APure.to c2 ?_
    ((conv => whnf); repeat (refine stepK_in ?_; (repeat (first | refine seqQ_n ?_ | refine blockQ_n ?_ | refine awp_skip ?_ | refine awp_seq ?_ | refine awp_block ?_)); (conv => whnf)))
    refine br_dec (fun h => absurd (show b < 1 from h) (by omega)) (fun _ => ?_)
    ((conv => whnf); repeat (refine stepK_in ?_; (repeat (first | refine seqQ_n ?_ | refine blockQ_n ?_ | refine awp_skip ?_ | refine awp_seq ?_ | refine awp_block ?_)); (conv => whnf)))
    refine br_dec (fun h => absurd (show a < 0 from h) (by omega)) (fun _ => ?_)
    ((conv => whnf); repeat (refine stepK_in ?_; (repeat (first | refine seqQ_n ?_ | refine blockQ_n ?_ | refine awp_skip ?_ | refine awp_seq ?_ | refine awp_block ?_)); (conv => whnf)))
    refine br_dec (fun h => absurd (show a > 1099511627776 from h) (by omega)) (fun _ => ?_)
    ((conv => whnf); repeat (refine stepK_in ?_; (repeat (first | refine seqQ_n ?_ | refine blockQ_n ?_ | refine awp_skip ?_ | refine awp_seq ?_ | refine awp_block ?_)); (conv => whnf)))
    refine br_dec (fun h => absurd (show b > 1048576 from h) (by omega)) (fun _ => ?_)
    ((conv => whnf); repeat (refine stepK_in ?_; (repeat (first | refine seqQ_n ?_ | refine blockQ_n ?_ | refine awp_skip ?_ | refine awp_seq ?_ | refine awp_block ?_)); (conv => whnf)))
    refine ⟨inr (show -9223372036854775808 ≤ a + b ∧ a + b ≤ 9223372036854775807 by omega), ?_⟩
    ((conv => whnf); repeat (refine stepK_in ?_; (repeat (first | refine seqQ_n ?_ | refine blockQ_n ?_ | refine awp_skip ?_ | refine awp_seq ?_ | refine awp_block ?_)); (conv => whnf)))
    refine ⟨inr (show -9223372036854775808 ≤ a + b - 1 ∧ a + b - 1 ≤ 9223372036854775807 by omega), ?_⟩
    ((conv => whnf); repeat (refine stepK_in ?_; (repeat (first | refine seqQ_n ?_ | refine blockQ_n ?_ | refine awp_skip ?_ | refine awp_seq ?_ | refine awp_block ?_)); (conv => whnf)))
    refine ⟨(show b ≠ 0 by omega), ?_⟩
    refine ⟨inr (show -9223372036854775808 ≤ (a + b - 1).tdiv b ∧ (a + b - 1).tdiv b ≤ 9223372036854775807 by rw [hce]; omega), ?_⟩
    ((conv => whnf); repeat (refine stepK_in ?_; (repeat (first | refine seqQ_n ?_ | refine blockQ_n ?_ | refine awp_skip ?_ | refine awp_seq ?_ | refine awp_block ?_)); (conv => whnf)))
    refine br_eq (fun _ => ?_) (fun h => absurd hce.symm h)
    ((conv => whnf); repeat (refine stepK_in ?_; (repeat (first | refine seqQ_n ?_ | refine blockQ_n ?_ | refine awp_skip ?_ | refine awp_seq ?_ | refine awp_block ?_)); (conv => whnf)))
    refine APure.to fin ?_
    ((conv => whnf); repeat (refine stepK_in ?_; (repeat (first | refine seqQ_n ?_ | refine blockQ_n ?_ | refine awp_skip ?_ | refine awp_seq ?_ | refine awp_block ?_)); (conv => whnf)))
    exact ⟨trivial, rfl⟩
  · rw [few41 h40]
    ((conv => whnf); repeat (refine stepK_in ?_; (repeat (first | refine seqQ_n ?_ | refine blockQ_n ?_ | refine awp_skip ?_ | refine awp_seq ?_ | refine awp_block ?_)); (conv => whnf)))
    refine APure.to fin ?_
    ((conv => whnf); repeat (refine stepK_in ?_; (repeat (first | refine seqQ_n ?_ | refine blockQ_n ?_ | refine awp_skip ?_ | refine awp_seq ?_ | refine awp_block ?_)); (conv => whnf)))
    exact ⟨trivial, rfl⟩
end Go.Tri
