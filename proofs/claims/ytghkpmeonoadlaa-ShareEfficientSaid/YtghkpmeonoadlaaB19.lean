/-
  CONTRACTS: the reference's order of things.
-/
import Derived.Test.YtghkpmeonoadlaaB18
namespace Go.Tri
open Go.Proofs

def kindI (a b : Int) : Int := if a > 0 ∧ b = 0 then 0 else if a > 0 then 1 else if b > 0 then 2 else 3
theorem kind_pure (a b : Int) : APure Try.prog 49 [.int a, .int b] (fun R => R = .int (kindI a b)) := by
  refine APure_of (X := cx 18) (cx_ok 18) rfl (rs := [(.tmp 4, 3)]) Try.func49 (by decide) rfl rfl rfl (by simp [cx]) (by simp [NoFr]) ?_
  intro hlen
  ((conv => whnf); repeat (refine stepK_in ?_; (repeat (first | refine seqQ_n ?_ | refine blockQ_n ?_ | refine awp_skip ?_ | refine awp_seq ?_ | refine awp_block ?_)); (conv => whnf)))
  refine br_dec (fun h1 => ?_) (fun h1 => ?_)
  · ((conv => whnf); repeat (refine stepK_in ?_; (repeat (first | refine seqQ_n ?_ | refine blockQ_n ?_ | refine awp_skip ?_ | refine awp_seq ?_ | refine awp_block ?_)); (conv => whnf)))
    refine br_eq (fun h2 => ?_) (fun h2 => ?_)
    · ((conv => whnf); repeat (refine stepK_in ?_; (repeat (first | refine seqQ_n ?_ | refine blockQ_n ?_ | refine awp_skip ?_ | refine awp_seq ?_ | refine awp_block ?_)); (conv => whnf)))
      exact ⟨trivial, Qi (by unfold kindI; rw [if_pos ⟨h1, h2⟩])⟩
    · ((conv => whnf); repeat (refine stepK_in ?_; (repeat (first | refine seqQ_n ?_ | refine blockQ_n ?_ | refine awp_skip ?_ | refine awp_seq ?_ | refine awp_block ?_)); (conv => whnf)))
      refine br_dec (fun h3 => ?_) (fun h3 => absurd h1 h3)
      ((conv => whnf); repeat (refine stepK_in ?_; (repeat (first | refine seqQ_n ?_ | refine blockQ_n ?_ | refine awp_skip ?_ | refine awp_seq ?_ | refine awp_block ?_)); (conv => whnf)))
      exact ⟨trivial, Qi (by unfold kindI; rw [if_neg (fun h => h2 h.2), if_pos h1])⟩
  · ((conv => whnf); repeat (refine stepK_in ?_; (repeat (first | refine seqQ_n ?_ | refine blockQ_n ?_ | refine awp_skip ?_ | refine awp_seq ?_ | refine awp_block ?_)); (conv => whnf)))
    refine br_dec (fun h3 => absurd h3 h1) (fun h3 => ?_)
    ((conv => whnf); repeat (refine stepK_in ?_; (repeat (first | refine seqQ_n ?_ | refine blockQ_n ?_ | refine awp_skip ?_ | refine awp_seq ?_ | refine awp_block ?_)); (conv => whnf)))
    refine br_dec (fun h4 => ?_) (fun h4 => ?_)
    · ((conv => whnf); repeat (refine stepK_in ?_; (repeat (first | refine seqQ_n ?_ | refine blockQ_n ?_ | refine awp_skip ?_ | refine awp_seq ?_ | refine awp_block ?_)); (conv => whnf)))
      exact ⟨trivial, Qi (by unfold kindI; rw [if_neg (fun h => h1 h.1), if_neg h1, if_pos h4])⟩
    · ((conv => whnf); repeat (refine stepK_in ?_; (repeat (first | refine seqQ_n ?_ | refine blockQ_n ?_ | refine awp_skip ?_ | refine awp_seq ?_ | refine awp_block ?_)); (conv => whnf)))
      exact ⟨trivial, Qi (by unfold kindI; rw [if_neg (fun h => h1 h.1), if_neg h1, if_neg h4])⟩
def befB (a b c d : Int) (t : Bool) : Bool := if kindI a b ≠ kindI c d then decide (kindI a b < kindI c d) else if kindI a b = 1 ∧ a * d ≠ c * b then decide (a * d > c * b) else t
theorem before_pure (a b : List Int) (i k : Nat) (ha : in100 a.length (fA a)) (hb : in100 a.length (fA b)) (hl : a.length = b.length) (hi : i < a.length) (hk : k < a.length) :
    APure Try.prog 52 [.ints false a, .ints false b, .int i, .int k] (fun R => R = .bool (befB (a.getD i 0) (b.getD i 0) (a.getD k 0) (b.getD k 0) (decide ((i : Int) < k)))) := by
  refine APure_of (X := cx 80) (cx_ok 80) rfl (rs := [(.tmp 8, 4)]) Try.func52 (by decide) rfl rfl rfl (by simp [cx]) (by simp [NoFr]) ?_
  intro hlen
  have c1 := kind_pure (a.getD i 0) (b.getD i 0)
  have c2 := kind_pure (a.getD k 0) (b.getD k 0)
  have m1 : 0 ≤ a.getD i 0 * b.getD k 0 ∧ a.getD i 0 * b.getD k 0 ≤ 10000 := mul100 (ha i hi) (hb k hk)
  have m2 : 0 ≤ a.getD k 0 * b.getD i 0 ∧ a.getD k 0 * b.getD i 0 ≤ 10000 := mul100 (ha k hk) (hb i hi)
  ((conv => whnf); repeat (refine stepK_in ?_; (repeat (first | refine seqQ_n ?_ | refine blockQ_n ?_ | refine awp_skip ?_ | refine awp_seq ?_ | refine awp_block ?_)); (conv => whnf)))
  refine AW_draw (X := cx 80) (cx_ok 80) mixed (by kernel_rfl) ?_
  ((conv => whnf); repeat (refine stepK_in ?_; (repeat (first | refine seqQ_n ?_ | refine blockQ_n ?_ | refine awp_skip ?_ | refine awp_seq ?_ | refine awp_block ?_)); (conv => whnf)))
  repeat ((first | refine ⟨(show (0 : Int) ≤ (i : Int) by omega), ?_⟩ | refine ⟨(show (i : Int) < (a.length : Int) by omega), ?_⟩ | refine ⟨(show (i : Int) < (b.length : Int) by omega), ?_⟩); ((conv => whnf); repeat (refine stepK_in ?_; (repeat (first | refine seqQ_n ?_ | refine blockQ_n ?_ | refine awp_skip ?_ | refine awp_seq ?_ | refine awp_block ?_)); (conv => whnf))))
  refine ⟨_, c1, ?_⟩
  ((conv => whnf); repeat (refine stepK_in ?_; (repeat (first | refine seqQ_n ?_ | refine blockQ_n ?_ | refine awp_skip ?_ | refine awp_seq ?_ | refine awp_block ?_)); (conv => whnf)))
  repeat ((first | refine ⟨(show (0 : Int) ≤ (k : Int) by omega), ?_⟩ | refine ⟨(show (k : Int) < (a.length : Int) by omega), ?_⟩ | refine ⟨(show (k : Int) < (b.length : Int) by omega), ?_⟩); ((conv => whnf); repeat (refine stepK_in ?_; (repeat (first | refine seqQ_n ?_ | refine blockQ_n ?_ | refine awp_skip ?_ | refine awp_seq ?_ | refine awp_block ?_)); (conv => whnf))))
  refine ⟨_, c2, ?_⟩
  ((conv => whnf); repeat (refine stepK_in ?_; (repeat (first | refine seqQ_n ?_ | refine blockQ_n ?_ | refine awp_skip ?_ | refine awp_seq ?_ | refine awp_block ?_)); (conv => whnf)))
  refine br_ne (fun h1 => ?_) (fun h1 => ?_)
  · ((conv => whnf); repeat (refine stepK_in ?_; (repeat (first | refine seqQ_n ?_ | refine blockQ_n ?_ | refine awp_skip ?_ | refine awp_seq ?_ | refine awp_block ?_)); (conv => whnf)))
    exact ⟨trivial, Qb (by unfold befB; rw [if_pos h1])⟩
  · have h1 : ¬ kindI (a.getD i 0) (b.getD i 0) ≠ kindI (a.getD k 0) (b.getD k 0) := fun h => h h1
    ((conv => whnf); repeat (refine stepK_in ?_; (repeat (first | refine seqQ_n ?_ | refine blockQ_n ?_ | refine awp_skip ?_ | refine awp_seq ?_ | refine awp_block ?_)); (conv => whnf)))
    refine AW_draw (X := cx 80) (cx_ok 80) mixed (by kernel_rfl) ?_
    ((conv => whnf); repeat (refine stepK_in ?_; (repeat (first | refine seqQ_n ?_ | refine blockQ_n ?_ | refine awp_skip ?_ | refine awp_seq ?_ | refine awp_block ?_)); (conv => whnf)))
    refine br_eq (fun h2 => ?_) (fun h2 => ?_)
    · have h2 : kindI (a.getD i 0) (b.getD i 0) = 1 := h2
      ((conv => whnf); repeat (refine stepK_in ?_; (repeat (first | refine seqQ_n ?_ | refine blockQ_n ?_ | refine awp_skip ?_ | refine awp_seq ?_ | refine awp_block ?_)); (conv => whnf)))
      repeat ((first | refine ⟨(show (0 : Int) ≤ (i : Int) by omega), ?_⟩ | refine ⟨(show (i : Int) < (a.length : Int) by omega), ?_⟩ | refine ⟨(show (i : Int) < (b.length : Int) by omega), ?_⟩ | refine ⟨(show (0 : Int) ≤ (k : Int) by omega), ?_⟩ | refine ⟨(show (k : Int) < (a.length : Int) by omega), ?_⟩ | refine ⟨(show (k : Int) < (b.length : Int) by omega), ?_⟩ | refine ⟨(show InR (a.getD i 0 * b.getD k 0) from inr (by omega)), ?_⟩ | refine ⟨(show InR (a.getD k 0 * b.getD i 0) from inr (by omega)), ?_⟩); ((conv => whnf); repeat (refine stepK_in ?_; (repeat (first | refine seqQ_n ?_ | refine blockQ_n ?_ | refine awp_skip ?_ | refine awp_seq ?_ | refine awp_block ?_)); (conv => whnf))))
      refine br_ne (fun h3 => ?_) (fun h3 => ?_)
      · have h3 : a.getD i 0 * b.getD k 0 ≠ a.getD k 0 * b.getD i 0 := h3
        ((conv => whnf); repeat (refine stepK_in ?_; (repeat (first | refine seqQ_n ?_ | refine blockQ_n ?_ | refine awp_skip ?_ | refine awp_seq ?_ | refine awp_block ?_)); (conv => whnf)))
        refine AW_draw (X := cx 80) (cx_ok 80) mixed (by kernel_rfl) ?_
        ((conv => whnf); repeat (refine stepK_in ?_; (repeat (first | refine seqQ_n ?_ | refine blockQ_n ?_ | refine awp_skip ?_ | refine awp_seq ?_ | refine awp_block ?_)); (conv => whnf)))
        repeat ((first | refine ⟨(show (0 : Int) ≤ (i : Int) by omega), ?_⟩ | refine ⟨(show (i : Int) < (a.length : Int) by omega), ?_⟩ | refine ⟨(show (i : Int) < (b.length : Int) by omega), ?_⟩ | refine ⟨(show (0 : Int) ≤ (k : Int) by omega), ?_⟩ | refine ⟨(show (k : Int) < (a.length : Int) by omega), ?_⟩ | refine ⟨(show (k : Int) < (b.length : Int) by omega), ?_⟩ | refine ⟨(show InR (a.getD i 0 * b.getD k 0) from inr (by omega)), ?_⟩ | refine ⟨(show InR (a.getD k 0 * b.getD i 0) from inr (by omega)), ?_⟩); ((conv => whnf); repeat (refine stepK_in ?_; (repeat (first | refine seqQ_n ?_ | refine blockQ_n ?_ | refine awp_skip ?_ | refine awp_seq ?_ | refine awp_block ?_)); (conv => whnf))))
        exact ⟨trivial, Qb (by unfold befB; rw [if_neg h1, if_pos ⟨h2, h3⟩]; rfl)⟩
      · have h3 : a.getD i 0 * b.getD k 0 = a.getD k 0 * b.getD i 0 := h3
        ((conv => whnf); repeat (refine stepK_in ?_; (repeat (first | refine seqQ_n ?_ | refine blockQ_n ?_ | refine awp_skip ?_ | refine awp_seq ?_ | refine awp_block ?_)); (conv => whnf)))
        exact ⟨trivial, Qb (by unfold befB; rw [if_neg h1, if_neg (fun h => h.2 h3)])⟩
    · have h2 : kindI (a.getD i 0) (b.getD i 0) ≠ 1 := h2
      ((conv => whnf); repeat (refine stepK_in ?_; (repeat (first | refine seqQ_n ?_ | refine blockQ_n ?_ | refine awp_skip ?_ | refine awp_seq ?_ | refine awp_block ?_)); (conv => whnf)))
      exact ⟨trivial, Qb (by unfold befB; rw [if_neg h1, if_neg (fun h => h2 h.1)])⟩
end Go.Tri
