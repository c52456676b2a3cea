/-
  CONTRACTS: rates and their order.
-/
import Derived.Test.YtghkpmeonoadlaaB10
namespace Go.Tri
open Go.Proofs

def in100' (x : Int) : Prop := 0 ≤ x ∧ x ≤ 100
theorem both_pure (a b : Int) (ha : in100' a) (hb : in100' b) : APure Try.prog 80 [pairV a b] (fun R => R = .int (a + b)) := by
  refine APure_of (X := cx 8) (cx_ok 8) rfl (rs := [(.tmp 2, 3)]) Try.func80 (by decide) rfl rfl rfl (by simp [cx]) (nofr1 nofrP) ?_
  intro hlen
  obtain ⟨a1, a2⟩ := ha
  obtain ⟨b1, b2⟩ := hb
  ((conv => whnf); repeat (refine stepK_in ?_; (repeat (first | refine seqQ_n ?_ | refine blockQ_n ?_ | refine awp_skip ?_ | refine awp_seq ?_ | refine awp_block ?_)); (conv => whnf)))
  refine ⟨inr (by omega), ?_⟩
  ((conv => whnf); repeat (refine stepK_in ?_; (repeat (first | refine seqQ_n ?_ | refine blockQ_n ?_ | refine awp_skip ?_ | refine awp_seq ?_ | refine awp_block ?_)); (conv => whnf)))
  exact ⟨trivial, rfl⟩
theorem wanted_pure (a b : Int) (ha : in100' a) (hb : in100' b) : APure Try.prog 100 [pairV a b] (fun R => R = .int (minI 1 (a + b))) := by
  refine APure_of (X := cx 6) (cx_ok 6) rfl (rs := [(.tmp 2, 3)]) Try.func100 (by decide) rfl rfl rfl (by simp [cx]) (nofr1 nofrP) ?_
  intro hlen
  ((conv => whnf); repeat (refine stepK_in ?_; (repeat (first | refine seqQ_n ?_ | refine blockQ_n ?_ | refine awp_skip ?_ | refine awp_seq ?_ | refine awp_block ?_)); (conv => whnf)))
  refine APure.to (APure.arg1 (sub_pair rfl rfl) (both_pure a b ha hb)) ?_
  ((conv => whnf); repeat (refine stepK_in ?_; (repeat (first | refine seqQ_n ?_ | refine blockQ_n ?_ | refine awp_skip ?_ | refine awp_seq ?_ | refine awp_block ?_)); (conv => whnf)))
  exact ⟨trivial, rfl⟩
/-- The first of a list that is not 0. -/
def orL : List Int → Int
  | [] => 0
  | x :: r => if x = 0 then orL r else x
theorem orL_drop {xs : List Int} {k : Nat} (hk : k < xs.length) : orL (xs.drop k) = if xs.getD k 0 = 0 then orL (xs.drop (k + 1)) else xs.getD k 0 := by
  rw [List.drop_eq_getElem_cons hk]
  simp [orL, List.getD, hk]
theorem Or_pure (xs : List Int) : APure Try.prog 101 [.ints false xs] (fun R => R = .int (orL xs)) := by
  refine APure_of (X := cx 18) (cx_ok 18) rfl (rs := [(.tmp 2, 3)]) Try.func101 (by decide) rfl rfl rfl (by simp [cx]) (by simp [NoFr]) ?_
  intro hlen
  have hla := LenI hlen
  ((conv => whnf); repeat (refine stepK_in ?_; (repeat (first | refine seqQ_n ?_ | refine blockQ_n ?_ | refine awp_skip ?_ | refine awp_seq ?_ | refine awp_block ?_)); (conv => whnf)))
  refine AW_loop (X := cx 18) (cx_ok 18) [3, 6, 7, 8] (fun vs M => ∃ k : Nat, k ≤ xs.length ∧ orL xs = orL (xs.drop k) ∧ vs = [.int 0, .ints false xs, .int xs.length, .int k] ∧ M = []) (fun vs _ => xs.length - (vs.getD 3 .any).toInt.toNat) ?_ ?_
  · exact ⟨0, Nat.zero_le _, by simp, rfl, rfl⟩
  rintro vs M ⟨k, hk, hi, rfl, rfl⟩
  ((conv => whnf); repeat (refine stepK_in ?_; (repeat (first | refine seqQ_n ?_ | refine blockQ_n ?_ | refine awp_skip ?_ | refine awp_seq ?_ | refine awp_block ?_)); (conv => whnf)))
  refine br_dec (fun hlt => ?_) (fun hge => ?_)
  · have hk' : k < xs.length := by omega
    rw [orL_drop hk'] at hi
    ((conv => whnf); repeat (refine stepK_in ?_; (repeat (first | refine seqQ_n ?_ | refine blockQ_n ?_ | refine awp_skip ?_ | refine awp_seq ?_ | refine awp_block ?_)); (conv => whnf)))
    refine ⟨(show (0 : Int) ≤ (k : Int) by omega), ?_⟩
    refine ⟨(show (k : Int) < (xs.length : Int) by omega), ?_⟩
    ((conv => whnf); repeat (refine stepK_in ?_; (repeat (first | refine seqQ_n ?_ | refine blockQ_n ?_ | refine awp_skip ?_ | refine awp_seq ?_ | refine awp_block ?_)); (conv => whnf)))
    refine br_ne (fun h => ?_) (fun h => ?_)
    · have h : xs.getD k 0 ≠ 0 := h
      rw [if_neg h] at hi
      ((conv => whnf); repeat (refine stepK_in ?_; (repeat (first | refine seqQ_n ?_ | refine blockQ_n ?_ | refine awp_skip ?_ | refine awp_seq ?_ | refine awp_block ?_)); (conv => whnf)))
      exact ⟨trivial, Qi hi.symm⟩
    · have h : xs.getD k 0 = 0 := h
      rw [if_pos h] at hi
      ((conv => whnf); repeat (refine stepK_in ?_; (repeat (first | refine seqQ_n ?_ | refine blockQ_n ?_ | refine awp_skip ?_ | refine awp_seq ?_ | refine awp_block ?_)); (conv => whnf)))
      refine ⟨inr (by omega), ?_⟩
      ((conv => whnf); repeat (refine stepK_in ?_; (repeat (first | refine seqQ_n ?_ | refine blockQ_n ?_ | refine awp_skip ?_ | refine awp_seq ?_ | refine awp_block ?_)); (conv => whnf)))
      refine ⟨⟨k + 1, by omega, hi, rfl, rfl⟩, ?_⟩
      simp [V.toInt, sel, Env.get]; omega
  · obtain rfl : k = xs.length := by omega
    ((conv => whnf); repeat (refine stepK_in ?_; (repeat (first | refine seqQ_n ?_ | refine blockQ_n ?_ | refine awp_skip ?_ | refine awp_seq ?_ | refine awp_block ?_)); (conv => whnf)))
    refine ⟨trivial, Qi ?_⟩
    rw [hi]
    simp [orL]
/-- The order of two rates. -/
def crI (a b c d : Int) : Int := if cmpI (minI 1 (c + d)) (minI 1 (a + b)) = 0 then cmpI (c * b) (a * d) else cmpI (minI 1 (c + d)) (minI 1 (a + b))
theorem mul100 {a b : Int} (ha : in100' a) (hb : in100' b) : 0 ≤ a * b ∧ a * b ≤ 10000 := by
  obtain ⟨a1, a2⟩ := ha
  obtain ⟨b1, b2⟩ := hb
  exact ⟨Int.mul_nonneg a1 b1, Int.mul_le_mul a2 b2 b1 (by omega)⟩
theorem compare_pure (a b c d : Int) (ha : in100' a) (hb : in100' b) (hc : in100' c) (hd : in100' d) : APure Try.prog 79 [pairV a b, pairV c d] (fun R => R = .int (crI a b c d)) := by
  refine APure_of (X := cx 26) (cx_ok 26) rfl (rs := [(.tmp 4, 3)]) Try.func79 (by decide) rfl rfl rfl (by simp [cx]) (nofr2 nofrP nofrP) ?_
  intro hlen
  have m1 := mul100 hc hb
  have m2 := mul100 ha hd
  have c0 := Or_pure [cmpI (minI 1 (c + d)) (minI 1 (a + b)), cmpI (c * b) (a * d)]
  rw [show orL [cmpI (minI 1 (c + d)) (minI 1 (a + b)), cmpI (c * b) (a * d)] = crI a b c d from by
    unfold crI
    simp only [orL]
    split
    · split
      · next h => rw [h]
      · rfl
    · rfl] at c0
  ((conv => whnf); repeat (refine stepK_in ?_; (repeat (first | refine seqQ_n ?_ | refine blockQ_n ?_ | refine awp_skip ?_ | refine awp_seq ?_ | refine awp_block ?_)); (conv => whnf)))
  refine AW_draw (X := cx 26) (cx_ok 26) mixed (by kernel_rfl) ?_
  ((conv => whnf); repeat (refine stepK_in ?_; (repeat (first | refine seqQ_n ?_ | refine blockQ_n ?_ | refine awp_skip ?_ | refine awp_seq ?_ | refine awp_block ?_)); (conv => whnf)))
  refine ⟨.int (minI 1 (c + d)), APure.arg1 (sub_pair rfl rfl) (wanted_pure c d hc hd), ?_⟩
  ((conv => whnf); repeat (refine stepK_in ?_; (repeat (first | refine seqQ_n ?_ | refine blockQ_n ?_ | refine awp_skip ?_ | refine awp_seq ?_ | refine awp_block ?_)); (conv => whnf)))
  refine ⟨.int (minI 1 (a + b)), APure.arg1 (sub_pair rfl rfl) (wanted_pure a b ha hb), ?_⟩
  ((conv => whnf); repeat (refine stepK_in ?_; (repeat (first | refine seqQ_n ?_ | refine blockQ_n ?_ | refine awp_skip ?_ | refine awp_seq ?_ | refine awp_block ?_)); (conv => whnf)))
  refine ⟨.int (cmpI (minI 1 (c + d)) (minI 1 (a + b))), Compare_pure _ _, ?_⟩
  ((conv => whnf); repeat (refine stepK_in ?_; (repeat (first | refine seqQ_n ?_ | refine blockQ_n ?_ | refine awp_skip ?_ | refine awp_seq ?_ | refine awp_block ?_)); (conv => whnf)))
  refine ⟨inr (by omega), ?_⟩
  ((conv => whnf); repeat (refine stepK_in ?_; (repeat (first | refine seqQ_n ?_ | refine blockQ_n ?_ | refine awp_skip ?_ | refine awp_seq ?_ | refine awp_block ?_)); (conv => whnf)))
  refine ⟨inr (by omega), ?_⟩
  ((conv => whnf); repeat (refine stepK_in ?_; (repeat (first | refine seqQ_n ?_ | refine blockQ_n ?_ | refine awp_skip ?_ | refine awp_seq ?_ | refine awp_block ?_)); (conv => whnf)))
  refine ⟨.int (cmpI (c * b) (a * d)), Compare_pure _ _, ?_⟩
  ((conv => whnf); repeat (refine stepK_in ?_; (repeat (first | refine seqQ_n ?_ | refine blockQ_n ?_ | refine awp_skip ?_ | refine awp_seq ?_ | refine awp_block ?_)); (conv => whnf)))
  refine ⟨.int (crI a b c d), c0, ?_⟩
  ((conv => whnf); repeat (refine stepK_in ?_; (repeat (first | refine seqQ_n ?_ | refine blockQ_n ?_ | refine awp_skip ?_ | refine awp_seq ?_ | refine awp_block ?_)); (conv => whnf)))
  exact ⟨trivial, rfl⟩
end Go.Tri
